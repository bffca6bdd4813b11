/- Package whole: Bytes. Package whole, plainly: what was written is read. -/
import Derived.Test.YtcajofdmadpmoaaDoorWbAK
namespace Go.Proofs.YtcajofdmadpmoaaDoor
open Go.RowKit

set_option maxRecDepth 100000 in
set_option maxHeartbeats 8000000 in
theorem bytes_any (z : VoZ) (w : World) (am_ aa_ ar_ als_ ao_ arxp arxr arxn alxp alxr alxn : Option Addr) (cm_ ca_ cr_ cls_ co_ crxp crxr crxn clxp clxr clxn : Nat)
    (hm_ : Lst w.heap.size w am_ cm_ z.main)
    (ha_ : Lst w.heap.size w aa_ ca_ z.aux)
    (hr_ : LstR w.heap.size w ar_ cr_ z.roots)
    (hls_ : Lst w.heap.size w als_ cls_ z.last)
    (ho_ : LstF w.heap.size w ao_ co_ z.opens)
    (hrxp : Lst w.heap.size w arxp crxp z.rows.ps)
    (hrxr : LstR w.heap.size w arxr crxr z.rows.rows)
    (hrxn : LstR w.heap.size w arxn crxn z.rows.nodes)
    (hlxp : Lst w.heap.size w alxp clxp z.lst.ps)
    (hlxr : LstR w.heap.size w alxr clxr z.lst.rows)
    (hlxn : LstR w.heap.size w alxn clxn z.lst.nodes)
    (hl : (vbV z).length ≤ 70368744177664) :
    Calls Tryd.prog 4 #[.agg #[.slice am_ z.main.length cm_, .slice aa_ z.aux.length ca_, .int .i64 z.tries, .slice ar_ z.roots.length cr_, .slice als_ z.last.length cls_, .slice ao_ z.opens.length co_, .slice arxp z.rows.ps.length crxp, .slice arxr z.rows.rows.length crxr, .slice arxn z.rows.nodes.length crxn, .slice alxp z.lst.ps.length clxp, .slice alxr z.lst.rows.length clxr, .slice alxn z.lst.nodes.length clxn]] w (ApE w.heap.size w (vbV z)) := by
  obtain ⟨P1, hP1⟩ : ∃ P, P = [] ++ vbL z.main := ⟨_, rfl⟩
  obtain ⟨P2, hP2⟩ : ∃ P, P = P1 ++ vbL z.aux := ⟨_, rfl⟩
  obtain ⟨P3, hP3⟩ : ∃ P, P = P2 ++ vbI z.tries := ⟨_, rfl⟩
  obtain ⟨P4, hP4⟩ : ∃ P, P = P3 ++ vbR z.roots := ⟨_, rfl⟩
  obtain ⟨P5, hP5⟩ : ∃ P, P = P4 ++ vbL z.last := ⟨_, rfl⟩
  obtain ⟨P6, hP6⟩ : ∃ P, P = P5 ++ vbOs z.opens := ⟨_, rfl⟩
  obtain ⟨P7, hP7⟩ : ∃ P, P = P6 ++ vbO z.rows := ⟨_, rfl⟩
  obtain ⟨P8, hP8⟩ : ∃ P, P = P7 ++ vbO z.lst := ⟨_, rfl⟩
  have hT : vbV z = P8 := by rw [hP8, hP7, hP6, hP5, hP4, hP3, hP2, hP1]; rfl
  rw [hT] at hl ⊢
  have hl8 := hl
  have hl7 : P7.length ≤ 70368744177664 := by rw [hP8, List.length_append] at hl8; omega
  have hl6 : P6.length ≤ 70368744177664 := by rw [hP7, List.length_append] at hl7; omega
  have hl5 : P5.length ≤ 70368744177664 := by rw [hP6, List.length_append] at hl6; omega
  have hl4 : P4.length ≤ 70368744177664 := by rw [hP5, List.length_append] at hl5; omega
  have hl3 : P3.length ≤ 70368744177664 := by rw [hP4, List.length_append] at hl4; omega
  have hl2 : P2.length ≤ 70368744177664 := by rw [hP3, List.length_append] at hl3; omega
  have hl1 : P1.length ≤ 70368744177664 := by rw [hP2, List.length_append] at hl2; omega
  have HP1 := hid hP1
  have HL1 := hid hl1
  have HP2 := hid hP2
  have HL2 := hid hl2
  have HP3 := hid hP3
  have HL3 := hid hl3
  have HP4 := hid hP4
  have HL4 := hid hl4
  have HP5 := hid hP5
  have HL5 := hid hl5
  have HP6 := hid hP6
  have HL6 := hid hl6
  have HP7 := hid hP7
  have HL7 := hid hl7
  have HP8 := hid hP8
  have HL8 := hid hl8
  obtain ⟨W0, hW0⟩ : ∃ W0, W0 = w.alloc (.cells #[.slice am_ z.main.length cm_, .slice aa_ z.aux.length ca_, .int .i64 z.tries, .slice ar_ z.roots.length cr_, .slice als_ z.last.length cls_, .slice ao_ z.opens.length co_, .slice arxp z.rows.ps.length crxp, .slice arxr z.rows.rows.length crxr, .slice arxn z.rows.nodes.length crxn, .slice alxp z.lst.ps.length clxp, .slice alxr z.lst.rows.length clxr, .slice alxn z.lst.nodes.length clxn] 30) := ⟨_, rfl⟩
  obtain ⟨Q, hQ⟩ : ∃ Q, Q = w.heap.size := ⟨_, rfl⟩
  have hb0 : Below Q w W0 := by rw [hW0, hQ]; exact (Below.refl _ _).alloc (Nat.le_refl _) _
  have hku : KU w W0 := by rw [hW0]; exact KU.below ((Below.refl _ _).alloc (Nat.le_refl _) _)
  have hq0 : W0.heap[Q]? = some (.cells #[.slice am_ z.main.length cm_, .slice aa_ z.aux.length ca_, .int .i64 z.tries, .slice ar_ z.roots.length cr_, .slice als_ z.last.length cls_, .slice ao_ z.opens.length co_, .slice arxp z.rows.ps.length crxp, .slice arxr z.rows.rows.length crxr, .slice arxn z.rows.nodes.length crxn, .slice alxp z.lst.ps.length clxp, .slice alxr z.lst.rows.length clxr, .slice alxn z.lst.nodes.length clxn] 30 (0, 0)) := by rw [hW0, hQ]; exact heap_alloc_new w _
  rw [← hQ] at hm_ ha_ hr_ hls_ ho_ hrxp hrxr hrxn hlxp hlxr hlxn ⊢
  have HB := hid (Nat.le_of_eq hQ)
  have HBK := hid (And.intro hb0 hku)
  have Hm_ := hid hm_
  have Ha_ := hid ha_
  have Hr_ := hid hr_
  have Hls_ := hid hls_
  have Ho_ := hid ho_
  have Hrxp := hid hrxp
  have Hrxr := hid hrxr
  have Hrxn := hid hrxn
  have Hlxp := hid hlxp
  have Hlxr := hid hlxr
  have Hlxn := hid hlxn
  have HQQ := hid hQ
  have HW0 := hid hW0
  have HQ0 := hid hq0
  obtain ⟨nm_, hnm_⟩ : ∃ n, n = z.main.length := ⟨_, rfl⟩
  have HNm_ := hid hnm_
  obtain ⟨na_, hna_⟩ : ∃ n, n = z.aux.length := ⟨_, rfl⟩
  have HNa_ := hid hna_
  obtain ⟨nr_, hnr_⟩ : ∃ n, n = z.roots.length := ⟨_, rfl⟩
  have HNr_ := hid hnr_
  obtain ⟨nls_, hnls_⟩ : ∃ n, n = z.last.length := ⟨_, rfl⟩
  have HNls_ := hid hnls_
  obtain ⟨no_, hno_⟩ : ∃ n, n = z.opens.length := ⟨_, rfl⟩
  have HNo_ := hid hno_
  obtain ⟨nrxp, hnrxp⟩ : ∃ n, n = z.rows.ps.length := ⟨_, rfl⟩
  have HNrxp := hid hnrxp
  obtain ⟨nrxr, hnrxr⟩ : ∃ n, n = z.rows.rows.length := ⟨_, rfl⟩
  have HNrxr := hid hnrxr
  obtain ⟨nrxn, hnrxn⟩ : ∃ n, n = z.rows.nodes.length := ⟨_, rfl⟩
  have HNrxn := hid hnrxn
  obtain ⟨nlxp, hnlxp⟩ : ∃ n, n = z.lst.ps.length := ⟨_, rfl⟩
  have HNlxp := hid hnlxp
  obtain ⟨nlxr, hnlxr⟩ : ∃ n, n = z.lst.rows.length := ⟨_, rfl⟩
  have HNlxr := hid hnlxr
  obtain ⟨nlxn, hnlxn⟩ : ∃ n, n = z.lst.nodes.length := ⟨_, rfl⟩
  have HNlxn := hid hnlxn
  rw [← hnm_, ← hna_, ← hnr_, ← hnls_, ← hno_, ← hnrxp, ← hnrxr, ← hnrxn, ← hnlxp, ← hnlxr, ← hnlxn] at HW0 HQ0
  rw [← hnm_, ← hna_, ← hnr_, ← hnls_, ← hno_, ← hnrxp, ← hnrxr, ← hnrxn, ← hnlxp, ← hnlxr, ← hnlxn]
  have HN := hid (appNums_any Q [] (.slice none 0 0) am_ cm_ z.main W0 (World.ownsRow_nil _ _ _ _) (Nat.le_trans HB.out HBK.out.1.size) (Hm_.out.below HBK.out.1) (by rw [← HP1.out]; exact HL1.out))
  rw [← HP1.out] at HN
  rw [← HNm_.out] at HN
  have x0 : W0.cell? ⟨Q, 0, none⟩ = some (.slice am_ nm_ cm_) := by have := HQ0.out; simp [World.cell?, this]
  clear hm_ ha_ hr_ hls_ ho_ hrxp hrxr hrxn hlxp hlxr hlxn hP8 hP7 hP6 hP5 hP4 hP3 hP2 hP1 hl1 hl2 hl3 hl4 hl5 hl6 hl7 hT hl hl8 hW0 hQ hb0 hku hq0 hnm_ hna_ hnr_ hnls_ hno_ hnrxp hnrxr hnrxn hnlxp hnlxr hnlxn
  go_enter Tryd.func4, Tryd.ntmps4
  go_wp2_with fail
  rw [← HW0.out]
  refine HN.out.mono ?_
  rintro e w1 ⟨v1, rfl, k1, k2, k3⟩
  have HBK2 := hid (And.intro (HBK.out.1.trans k2) (HBK.out.2.trans k3))
  have HQ2 := hid ((k3 _ _ _ _ HQ0.out (by decide)).trans HQ0.out)
  clear HN HBK HQ0 x0
  have HBK := HBK2
  have HQ0 := HQ2
  clear HBK2 HQ2
  have HN := hid (appNums_any Q P1 v1 aa_ ca_ z.aux w1 k1 (Nat.le_trans HB.out HBK.out.1.size) (Ha_.out.below HBK.out.1) (by rw [← HP2.out]; exact HL2.out))
  rw [← HP2.out] at HN
  rw [← HNa_.out] at HN
  have x0 : w1.cell? ⟨Q, 1, none⟩ = some (.slice aa_ na_ ca_) := by have := HQ0.out; simp [World.cell?, this]
  have hQ := HQQ.out
  rw [hQ] at x0
  clear k1 k2 k3 hQ HW0
  go_wp2_with fail
  refine HN.out.mono ?_
  rintro e w2 ⟨v2, rfl, k1, k2, k3⟩
  have HBK2 := hid (And.intro (HBK.out.1.trans k2) (HBK.out.2.trans k3))
  have HQ2 := hid ((k3 _ _ _ _ HQ0.out (by decide)).trans HQ0.out)
  clear HN HBK HQ0 x0
  have HBK := HBK2
  have HQ0 := HQ2
  clear HBK2 HQ2
  have HN := hid (appNumber_any Q P2 v2 z.tries w2 k1 (Nat.le_trans HB.out HBK.out.1.size) (by rw [← HP3.out]; exact HL3.out))
  rw [← HP3.out] at HN
  have x0 : w2.cell? ⟨Q, 2, none⟩ = some (.int .i64 z.tries) := by have := HQ0.out; simp [World.cell?, this]
  have hQ := HQQ.out
  rw [hQ] at x0
  clear k1 k2 k3 hQ
  go_wp2_with fail
  refine HN.out.mono ?_
  rintro e w3 ⟨v3, rfl, k1, k2, k3⟩
  have HBK2 := hid (And.intro (HBK.out.1.trans k2) (HBK.out.2.trans k3))
  have HQ2 := hid ((k3 _ _ _ _ HQ0.out (by decide)).trans HQ0.out)
  clear HN HBK HQ0 x0
  have HBK := HBK2
  have HQ0 := HQ2
  clear HBK2 HQ2
  have HN := hid (appRows_any Q P3 v3 ar_ cr_ z.roots w3 k1 (Nat.le_trans HB.out HBK.out.1.size) (Hr_.out.below HBK.out.1) (by rw [← HP4.out]; exact HL4.out))
  rw [← HP4.out] at HN
  rw [← HNr_.out] at HN
  have x0 : w3.cell? ⟨Q, 3, none⟩ = some (.slice ar_ nr_ cr_) := by have := HQ0.out; simp [World.cell?, this]
  have hQ := HQQ.out
  rw [hQ] at x0
  clear k1 k2 k3 hQ
  go_wp2_with fail
  refine HN.out.mono ?_
  rintro e w4 ⟨v4, rfl, k1, k2, k3⟩
  have HBK2 := hid (And.intro (HBK.out.1.trans k2) (HBK.out.2.trans k3))
  have HQ2 := hid ((k3 _ _ _ _ HQ0.out (by decide)).trans HQ0.out)
  clear HN HBK HQ0 x0
  have HBK := HBK2
  have HQ0 := HQ2
  clear HBK2 HQ2
  have HN := hid (appNums_any Q P4 v4 als_ cls_ z.last w4 k1 (Nat.le_trans HB.out HBK.out.1.size) (Hls_.out.below HBK.out.1) (by rw [← HP5.out]; exact HL5.out))
  rw [← HP5.out] at HN
  rw [← HNls_.out] at HN
  have x0 : w4.cell? ⟨Q, 4, none⟩ = some (.slice als_ nls_ cls_) := by have := HQ0.out; simp [World.cell?, this]
  have hQ := HQQ.out
  rw [hQ] at x0
  clear k1 k2 k3 hQ
  go_wp2_with fail
  refine HN.out.mono ?_
  rintro e w5 ⟨v5, rfl, k1, k2, k3⟩
  have HBK2 := hid (And.intro (HBK.out.1.trans k2) (HBK.out.2.trans k3))
  have HQ2 := hid ((k3 _ _ _ _ HQ0.out (by decide)).trans HQ0.out)
  clear HN HBK HQ0 x0
  have HBK := HBK2
  have HQ0 := HQ2
  clear HBK2 HQ2
  have HN := hid (appOpens_any Q P5 v5 ao_ co_ z.opens w5 k1 (Nat.le_trans HB.out HBK.out.1.size) (Ho_.out.below HBK.out.1) (by rw [← HP6.out]; exact HL6.out))
  rw [← HP6.out] at HN
  rw [← HNo_.out] at HN
  have x0 : w5.cell? ⟨Q, 5, none⟩ = some (.slice ao_ no_ co_) := by have := HQ0.out; simp [World.cell?, this]
  have hQ := HQQ.out
  rw [hQ] at x0
  clear k1 k2 k3 hQ
  go_wp2_with fail
  refine HN.out.mono ?_
  rintro e w6 ⟨v6, rfl, k1, k2, k3⟩
  have HBK2 := hid (And.intro (HBK.out.1.trans k2) (HBK.out.2.trans k3))
  have HQ2 := hid ((k3 _ _ _ _ HQ0.out (by decide)).trans HQ0.out)
  clear HN HBK HQ0 x0
  have HBK := HBK2
  have HQ0 := HQ2
  clear HBK2 HQ2
  have HN := hid (appOpening_any Q P6 v6 arxp arxr arxn crxp crxr crxn z.rows w6 k1 (Nat.le_trans HB.out HBK.out.1.size) (Hrxp.out.below HBK.out.1) (Hrxr.out.below HBK.out.1) (Hrxn.out.below HBK.out.1) (by rw [← HP7.out]; exact HL7.out))
  rw [← HP7.out] at HN
  rw [← HNrxp.out] at HN
  rw [← HNrxr.out] at HN
  rw [← HNrxn.out] at HN
  have x0 : w6.cell? ⟨Q, 6, none⟩ = some (.slice arxp nrxp crxp) := by have := HQ0.out; simp [World.cell?, this]
  have x1 : w6.cell? ⟨Q, 7, none⟩ = some (.slice arxr nrxr crxr) := by have := HQ0.out; simp [World.cell?, this]
  have x2 : w6.cell? ⟨Q, 8, none⟩ = some (.slice arxn nrxn crxn) := by have := HQ0.out; simp [World.cell?, this]
  have hQ := HQQ.out
  rw [hQ] at x0 x1 x2
  clear k1 k2 k3 hQ
  go_wp2_with fail
  refine HN.out.mono ?_
  rintro e w7 ⟨v7, rfl, k1, k2, k3⟩
  have HBK2 := hid (And.intro (HBK.out.1.trans k2) (HBK.out.2.trans k3))
  have HQ2 := hid ((k3 _ _ _ _ HQ0.out (by decide)).trans HQ0.out)
  clear HN HBK HQ0 x0 x1 x2
  have HBK := HBK2
  have HQ0 := HQ2
  clear HBK2 HQ2
  have HN := hid (appOpening_any Q P7 v7 alxp alxr alxn clxp clxr clxn z.lst w7 k1 (Nat.le_trans HB.out HBK.out.1.size) (Hlxp.out.below HBK.out.1) (Hlxr.out.below HBK.out.1) (Hlxn.out.below HBK.out.1) (by rw [← HP8.out]; exact HL8.out))
  rw [← HP8.out] at HN
  rw [← HNlxp.out] at HN
  rw [← HNlxr.out] at HN
  rw [← HNlxn.out] at HN
  have x0 : w7.cell? ⟨Q, 9, none⟩ = some (.slice alxp nlxp clxp) := by have := HQ0.out; simp [World.cell?, this]
  have x1 : w7.cell? ⟨Q, 10, none⟩ = some (.slice alxr nlxr clxr) := by have := HQ0.out; simp [World.cell?, this]
  have x2 : w7.cell? ⟨Q, 11, none⟩ = some (.slice alxn nlxn clxn) := by have := HQ0.out; simp [World.cell?, this]
  have hQ := HQQ.out
  rw [hQ] at x0 x1 x2
  clear k1 k2 k3 hQ
  go_wp2_with fail
  refine HN.out.mono ?_
  rintro e w8 ⟨v8, rfl, k1, k2, k3⟩
  have HBK2 := hid (And.intro (HBK.out.1.trans k2) (HBK.out.2.trans k3))
  have HQ2 := hid ((k3 _ _ _ _ HQ0.out (by decide)).trans HQ0.out)
  clear HN HBK HQ0 x0 x1 x2
  have HBK := HBK2
  have HQ0 := HQ2
  clear HBK2 HQ2
  have HE := hid (And.intro k1 HBK.out)
  clear k1 k2 k3
  go_wp2_with fail
  go_ret
  exact ⟨_, rfl, HE.out⟩

end Go.Proofs.YtcajofdmadpmoaaDoor

namespace Go.Proofs.YtcajofdmadpmoaaDoor
open Go.RowKit

/-- what is written is read back -/
def Fwd {α : Type} (p : Rdr α) (e : α → List Nat) (ok : α → Prop) : Prop := ∀ x r, ok x → p (e x ++ r) = some (x, r)
theorem rdA_fwd : ∀ (y s a : Nat) (r : List Nat), s ≤ 63 → s % 7 = 0 → y * 2 ^ s < 18446744073709551616 → (0 < y ∨ s = 0) → rdA (vby y ++ r) s a = some (a + y * 2 ^ s, r) := fun y => by
  induction y using Nat.strongRecOn with
  | _ y ih =>
    intro s a r hs h7 hy h0
    by_cases h1 : y < 128
    · rw [vby_small h1]
      show rdA (y :: r) s a = _
      have hc : s < 63 ∨ y ≤ 1 := by
        by_cases h63 : s < 63
        · exact .inl h63
        · obtain rfl : s = 63 := by omega
          exact .inr (by omega)
      unfold rdA
      rw [if_pos hc, if_pos h1, if_pos h0, Nat.mod_eq_of_lt h1]
    · rw [vby_big h1]
      show rdA ((y % 128 + 128) :: (vby (y / 128) ++ r)) s a = _
      have hs2 : s < 63 := by
        by_cases h63 : s < 63
        · exact h63
        · obtain rfl : s = 63 := by omega
          omega
      have h128 : 2 ^ (s + 7) = 128 * 2 ^ s := by rw [Nat.pow_add, Nat.mul_comm]
      have hsum : y % 128 * 2 ^ s + y / 128 * 2 ^ (s + 7) = y * 2 ^ s := by
        rw [h128, ← Nat.mul_assoc, ← Nat.add_mul]
        congr 1
        omega
      unfold rdA
      rw [if_pos (Or.inl hs2), if_neg (by omega)]
      rw [ih (y / 128) (by omega) (s + 7) _ r (by omega) (by omega) (by omega) (.inl (by omega))]
      rw [show (y % 128 + 128) % 128 = y % 128 from by omega, Nat.add_assoc, hsum]
def Z64 (n : Int) : Prop := -9223372036854775808 ≤ n ∧ n < 9223372036854775808
theorem sgz_uzz {n : Int} (h : Z64 n) : sgz (uzz n) = n := by
  unfold Z64 at h
  unfold sgz uzz
  split <;> omega
theorem rdI_fwd : Fwd rdI vbI Z64 := fun n r h => by
  unfold rdI vbI
  rw [rdA_fwd (uzz n) 0 0 r (by omega) rfl (by have := uzz_lt n; omega) (.inr rfl)]
  simp only [Nat.pow_zero, Nat.mul_one, Nat.zero_add, sgz_uzz h]
theorem rdC_fwd {n : Nat} {r : List Nat} (h : n ≤ r.length) (h2 : n < 9223372036854775808) : rdC (vby n ++ r) = some (n, r) := by
  have e : vby n ++ r = vbI (n : Int) ++ r := by unfold vbI; rw [uzz_nat (by omega)]
  unfold rdC
  rw [e, rdI_fwd (n : Int) r (by unfold Z64; omega)]
  show (if 0 ≤ (n : Int) ∧ (n : Int) ≤ (r.length : Int) then some ((n : Int).toNat, r) else none) = _
  rw [if_pos ⟨by omega, by omega⟩, Int.toNat_natCast]
theorem rdN_fwd {α : Type} {p : Rdr α} {e : α → List Nat} {ok : α → Prop} (hp : Fwd p e ok) (l : List α) (hl : ∀ x, x ∈ l → ok x) (r : List Nat) : ∀ k, k ≤ l.length → rdN p ((l.map e).flatten ++ r) k = some (l.take k, ((l.drop k).map e).flatten ++ r)
  | 0, _ => by simp [rdN]
  | k + 1, hk => by
    have hk2 : k < l.length := by omega
    have e1 : l.drop k = l[k] :: l.drop (k + 1) := List.drop_eq_getElem_cons hk2
    simp only [rdN, rdN_fwd hp l hl r k (by omega)]
    rw [e1, List.map_cons, List.flatten_cons, List.append_assoc, hp _ _ (hl _ (List.getElem_mem hk2))]
    simp only [List.take_add_one, List.getElem?_eq_getElem hk2]
    rfl
theorem rdL_fwd {α : Type} {p : Rdr α} {e : α → List Nat} {ok : α → Prop} (hp : Fwd p e ok) (he : ∀ x, 1 ≤ (e x).length) : Fwd (rdL p) (fun l => vby l.length ++ (l.map e).flatten) (fun l => (∀ x, x ∈ l → ok x) ∧ l.length < 9223372036854775808) := fun l r h => by
  unfold rdL
  have hg := flat_ge he l []
  rw [List.nil_append] at hg
  rw [List.append_assoc, rdC_fwd (by rw [List.length_append]; omega) h.2]
  show rdN p ((l.map e).flatten ++ r) l.length = _
  rw [rdN_fwd hp l h.1 r l.length (Nat.le_refl _)]
  simp
theorem rdT_fwd {α β : Type} {p : Rdr α} {q : Rdr β} {e : α → List Nat} {f : β → List Nat} {o1 : α → Prop} {o2 : β → Prop} (hp : Fwd p e o1) (hq : Fwd q f o2) : Fwd (rdT p q) (fun x => e x.1 ++ f x.2) (fun x => o1 x.1 ∧ o2 x.2) := fun x r h => by
  unfold rdT
  rw [List.append_assoc, hp x.1 _ h.1]
  show (match q (f x.2 ++ r) with | some (y, r') => some ((x.1, y), r') | none => none) = _
  rw [hq x.2 r h.2]
def okL (l : List Int) : Prop := (∀ x, x ∈ l → Z64 x) ∧ l.length < 9223372036854775808
def okR (l : List (List Int)) : Prop := (∀ x, x ∈ l → okL x) ∧ l.length < 9223372036854775808
def okO (o : OnZ) : Prop := okL o.ps ∧ okR o.rows ∧ okR o.nodes
def okOs (l : List OnZ) : Prop := (∀ x, x ∈ l → okO x) ∧ l.length < 9223372036854775808
def okV (v : VoZ) : Prop := okL v.main ∧ okL v.aux ∧ Z64 v.tries ∧ okR v.roots ∧ okL v.last ∧ okOs v.opens ∧ okO v.rows ∧ okO v.lst
theorem rdL_fwdI : Fwd (rdL rdI) vbL okL := rdL_fwd rdI_fwd vbI_len
theorem rdR_fwd : Fwd (rdL (rdL rdI)) vbR okR := rdL_fwd rdL_fwdI vbL_len
theorem rdO_fwd : Fwd rdO vbO okO := fun o r h => by
  have := rdT_fwd rdL_fwdI (rdT_fwd rdR_fwd rdR_fwd) (o.ps, o.rows, o.nodes) r ⟨h.1, h.2.1, h.2.2⟩
  unfold rdO
  rw [show vbO o ++ r = (vbL o.ps ++ (vbR o.rows ++ vbR o.nodes)) ++ r from by unfold vbO; simp only [List.append_assoc]]
  simp only at this
  rw [this]
theorem rdOs_fwd : Fwd (rdL rdO) vbOs okOs := rdL_fwd rdO_fwd vbO_len
theorem rdV_fwd : Fwd rdV vbV okV := fun v r h => by
  have := rdT_fwd rdL_fwdI (rdT_fwd rdL_fwdI (rdT_fwd rdI_fwd (rdT_fwd rdR_fwd (rdT_fwd rdL_fwdI (rdT_fwd rdOs_fwd (rdT_fwd rdO_fwd rdO_fwd)))))) (v.main, v.aux, v.tries, v.roots, v.last, v.opens, v.rows, v.lst) r ⟨h.1, h.2.1, h.2.2.1, h.2.2.2.1, h.2.2.2.2.1, h.2.2.2.2.2.1, h.2.2.2.2.2.2.1, h.2.2.2.2.2.2.2⟩
  unfold rdV
  rw [show vbV v ++ r = (vbL v.main ++ (vbL v.aux ++ (vbI v.tries ++ (vbR v.roots ++ (vbL v.last ++ (vbOs v.opens ++ (vbO v.rows ++ vbO v.lst))))))) ++ r from by unfold vbV; simp only [List.append_assoc]]
  simp only at this
  rw [this]

end Go.Proofs.YtcajofdmadpmoaaDoor
