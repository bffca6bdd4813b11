/- Package rules: Table, walked. Package rules: Table, where there may be one. attestref8.used. attestref8.Table: a row of a step, set in the reference's order; the greatest cell. Chapter 13's example, reckoned; attestlaw7's plain and lives. -/
import Derived.Test.YtaibngnabhmabakBnBF
import Derived.Test.YtaibngnabhmabakBnAZ
import Derived.Test.YtaibngnabhmabakBnBC
import Derived.Test.YtaibngnabhmabakFld
namespace Go.Proofs.Ytaibngnabhmabak
open Go.RowKit Go.Maps

/-- a run's outcome: what the first cell of its last step is -/
def outS (st : List (List Int)) : Int := zat (rat st (st.length - 1)) 7
/-- the steps of a row of steps, cell by cell -/
theorem StR.at {base : Nat} {w : World} {v : Value} {l : List (List Int)} (h : StR base w v l) (h0 : 0 < l.length) (h10 : ∀ s, s ∈ l → s.length = 10) : ∃ g cap, v = .slice (some ⟨g, 0, none⟩) l.length cap ∧ l.length ≤ maxLen ∧ g < w.heap.size ∧ ∀ i j, i < l.length → j < 10 → w.cell? ⟨g, i * 10 + j, none⟩ = some (.int .i64 (zat (rat l i) j)) := by
  have h' := h
  rcases h.2 with ⟨_, hn⟩ | ⟨g, cap, cur, rfl, hb, hg, hn, hm, hs, ht⟩
  · omega
  · refine ⟨g, cap, rfl, by omega, (Array.getElem?_eq_some_iff.1 hg).1, fun i j hi hj => ?_⟩
    have := World.ownsRow.cells h' (g := g) rfl (i * 10 + j) _ (stvs_at l h10 i j hi hj)
    have hadd : (⟨g, 0, none⟩ : Addr).add (i * 10 + j) = ⟨g, 0 + (i * 10 + j), none⟩ := by unfold Addr.add; split <;> simp_all
    rw [hadd, Nat.zero_add] at this
    exact this

/-- what rules.Table gives -/
def PtR (p : Nat) (size : Int) (L : List InsZ) (n : Int) (w : World) (e : Ending) (w' : World) : Prop := Below w.heap.size w w' ∧
  if n < 1 ∨ 512 < n ∨ 64 < L.length then e = .returned (.tuple #[.slice none 0 0, .int .i64 0, errV 2])
  else if fz6 (p : Int) size L.length (n - 1) ≠ 0 then e = .returned (.tuple #[.slice none 0 0, .int .i64 0, errV (fz6 (p : Int) size L.length (n - 1))])
  else match mwalk p size L (n - 1).toNat with
    | .bad z => e = .returned (.tuple #[.slice none 0 0, .int .i64 0, errV z])
    | .good st _ => if n.toNat < (tho p L st n.toNat).length then e = .returned (.tuple #[.slice none 0 0, .int .i64 0, errV 9])
      else ∃ T G K, TabG p L st n.toNat T ∧ e = .returned (.tuple #[.slice (some ⟨G, 0, none⟩) T.length T.length, .int .i64 (outS st), .nilIface]) ∧ Tbl w.heap.size G K w' T

set_option maxRecDepth 100000 in
set_option maxHeartbeats 4000000 in
/-- no such table: its size -/
theorem ptable_size (p b : Nat) (size n : Int) (aL : Option Addr) (cL : Nat) (L : List InsZ) (w : World) (hnL : L.length ≤ 281474976710656) (hno : n < 1 ∨ 512 < n ∨ 64 < L.length) :
    Calls Try.prog 9 #[.pointer (some ⟨b, 0, none⟩), .agg #[.int .i64 size, .slice aL L.length cL], .int .i64 n] w (PtR p size L n w) := by
  obtain ⟨W0, hW0⟩ : ∃ W0, W0 = w.alloc (.cells #[.int .i64 size, .slice aL L.length cL] 36) := ⟨_, rfl⟩
  have hb0 : Below w.heap.size w W0 := by rw [hW0]; exact (Below.refl _ _).alloc (Nat.le_refl _) _
  have hs0 : W0.heap[w.heap.size]? = some (.cells #[.int .i64 size, .slice aL L.length cL] 36 (0, 0)) := by rw [hW0]; exact heap_alloc_new w _
  have k1 : W0.cell? ⟨w.heap.size, 1, none⟩ = some (.slice aL L.length cL) := by simp [World.cell?, hs0]
  have HB0 := hid hb0
  have HNO := hid hno
  have HR : Hid (∀ e w', Below w.heap.size w w' → e = .returned (.tuple #[.slice none 0 0, .int .i64 0, .iface 49 (.int .i64 2)]) → PtR p size L n w e w') := fun e w' h1 h2 => ⟨h1, by rw [if_pos HNO.out]; exact h2⟩
  clear hb0 hs0
  generalize L.length = nL at *
  by_cases h1 : n < 1
  · clear HNO hno
    go_enter Try.func9, Try.ntmps9
    go_wp2_with fail
    rw [← hW0]
    clear hW0
    go_wp2_with fail
    go_ret3
    exact HR.out _ _ HB0.out rfl
  · by_cases h2 : 512 < n
    · clear HNO hno
      go_enter Try.func9, Try.ntmps9
      go_wp2_with fail
      rw [← hW0]
      clear hW0
      go_wp2_with fail
      go_ret3
      exact HR.out _ _ HB0.out rfl
    · have h3 : (64 : Int) < (nL : Int) := by omega
      clear HNO hno
      go_enter Try.func9, Try.ntmps9
      go_wp2_with fail
      rw [← hW0]
      clear hW0
      go_wp2_with fail
      go_ret3
      exact HR.out _ _ HB0.out rfl

end Go.Proofs.Ytaibngnabhmabak

namespace Go.Proofs.Ytaibngnabhmabak
open Go.RowKit Go.Maps

theorem neEr (T : TypeId) (v : Value) (w : World) : (binOp BinOp.neq 39 (.iface T v) .nilIface).run Try.prog w = .ok (.bool true) w := by kernel_rfl
theorem neNr (w : World) : (binOp BinOp.neq 39 .nilIface .nilIface).run Try.prog w = .ok (.bool false) w := by kernel_rfl

theorem Tbl.mono {base base' G : Nat} {K : Nat → Nat} {w : World} {R : List (List Int)} (h : Tbl base G K w R) (e : base' ≤ base) : Tbl base' G K w R :=
  ⟨h.lt, h.out, h.row, h.inj, ⟨Nat.le_trans e h.new.1, fun k hk => ⟨Nat.le_trans e (h.new.2 k hk).1, (h.new.2 k hk).2⟩⟩, h.soft⟩

set_option maxRecDepth 100000 in
set_option maxHeartbeats 4000000 in
theorem ptable_yes (p b : Nat) (size n : Int) (aL : Option Addr) (cL : Nat) (L : List InsZ) (w : World) (h3 : 3 ≤ p) (h4 : p ≤ 2147483647) (hpr : Num.Prime p) (hp : w.cell? ⟨b, 0, none⟩ = some (.int .i64 p)) (hL : LstI w.heap.size w aL cL L) (hIB : InsB L) (hyes : ¬ (n < 1 ∨ 512 < n ∨ 64 < L.length)) :
    Calls Try.prog 9 #[.pointer (some ⟨b, 0, none⟩), .agg #[.int .i64 size, .slice aL L.length cL], .int .i64 n] w (PtR p size L n w) := by
  have hmx : Try.prog.follows .mixedOrders = true := by kernel_rfl
  obtain ⟨m, rfl⟩ := Int.eq_ofNat_of_zero_le (show 0 ≤ n by omega)
  have hm1 : 1 ≤ m := by omega
  have hm2 : m ≤ 512 := by omega
  have hL64 : L.length ≤ 64 := by omega
  obtain ⟨W0, hW0⟩ : ∃ W0, W0 = w.alloc (.cells #[.int .i64 size, .slice aL L.length cL] 36) := ⟨_, rfl⟩
  have hb0 : Below w.heap.size w W0 := by rw [hW0]; exact (Below.refl _ _).alloc (Nat.le_refl _) _
  have hz : W0.heap.size = w.heap.size + 1 := by rw [hW0]; simp
  have hs0 : W0.heap[w.heap.size]? = some (.cells #[.int .i64 size, .slice aL L.length cL] 36 (0, 0)) := by rw [hW0]; exact heap_alloc_new w _
  have hcode : ∀ W, Below W0.heap.size W0 W → W.cell? ⟨w.heap.size, 0, none⟩ = some (.int .i64 size) ∧ W.cell? ⟨w.heap.size, 1, none⟩ = some (.slice aL L.length cL) := fun W h => by
    have := (h.block w.heap.size (by omega)).trans hs0
    exact ⟨by simp [World.cell?, this], by simp [World.cell?, this]⟩
  have hpW : ∀ W, Below W0.heap.size W0 W → W.cell? ⟨b, 0, none⟩ = some (.int .i64 p) := fun W h => ((hb0.trans (h.mono hb0.size)).cell (p := ⟨b, 0, none⟩) (World.block_lt_of_cell? _ _ hp)).trans hp
  have hLW : ∀ W, Below W0.heap.size W0 W → LstI W.heap.size W aL cL L := fun W h => (hL.below (hb0.trans (h.mono hb0.size))).mono (hb0.trans (h.mono hb0.size)).size
  have HB0 := hid hb0
  have HPW := hid hpW
  have HLW := hid hLW
  have HCO := hid hcode
  have HWK := hid (pwalk_any p b size ((m : Int) - 1) aL cL L W0 h3 h4 hpr (hpW W0 (Below.refl _ _)) (by omega) (hLW W0 (Below.refl _ _)) hIB)
  obtain ⟨k0, k1⟩ := hcode W0 (Below.refl _ _)
  obtain ⟨nL, hnl⟩ : ∃ nL, nL = L.length := ⟨_, rfl⟩
  have HNL := hid hnl
  have HY := hid hyes
  rw [← hnl] at hW0 k1 hL64 ⊢
  rw [← hnl] at HWK HCO
  have t1 : ¬ (m : Int) < 1 := by omega
  have t2 : ¬ (512 : Int) < (m : Int) := by omega
  have t3 : ¬ (64 : Int) < (nL : Int) := by omega
  have wm : IntKind.i64.wrap ((m : Int) - 1) = (m : Int) - 1 := by rw [IntKind.wrap_i64]; omega
  clear hb0 hs0 hcode hpW hLW hnl hyes hL hp hz
  go_enter Try.func9, Try.ntmps9
  go_wp2_with fail
  rw [← hW0]
  clear hW0
  go_wp2_with fail
  refine HWK.out.mono ?_
  rintro e w1 hwl
  obtain ⟨hb1, hwl⟩ := hwl
  have HB1 := hid hb1
  have hcase : (∃ z, z ≠ 0 ∧ e = .returned (.tuple #[.slice none 0 0, .iface 49 (.int .i64 z)]) ∧ ∀ e' w', Below w.heap.size w w' → e' = .returned (.tuple #[.slice none 0 0, .int .i64 0, .iface 49 (.int .i64 z)]) → PtR p size L (m : Int) w e' w') ∨
      (∃ st v, e = .returned (.tuple #[v, .nilIface]) ∧ StR W0.heap.size w1 v st ∧ (∀ s, s ∈ st → StB p L.length s) ∧ 0 < st.length ∧ ∀ e' w', Below w.heap.size w w' → (if m < (tho p L st m).length then e' = .returned (.tuple #[.slice none 0 0, .int .i64 0, errV 9]) else ∃ T G K, TabG p L st m T ∧ e' = .returned (.tuple #[.slice (some ⟨G, 0, none⟩) T.length T.length, .int .i64 (outS st), .nilIface]) ∧ Tbl w.heap.size G K w' T) → PtR p size L (m : Int) w e' w') := by
    by_cases hz : fz6 (p : Int) size L.length ((m : Int) - 1) ≠ 0
    · rw [if_pos hz, errV_nz hz] at hwl
      refine .inl ⟨_, hz, hwl, fun e' w' h1 h2 => ⟨h1, ?_⟩⟩
      rw [if_neg HY.out, if_pos hz, errV_nz hz]
      exact h2
    · rw [if_neg hz] at hwl
      cases hX : mwalk p size L ((m : Int) - 1).toNat with
      | bad z =>
        rw [hX] at hwl
        have hz0 := mgo_bad _ _ _ _ _ _ _ hX
        refine .inl ⟨z, hz0, by rw [← errV_nz hz0]; exact hwl, fun e' w' h1 h2 => ⟨h1, ?_⟩⟩
        rw [if_neg HY.out, if_neg hz, hX]
        show e' = _
        rw [errV_nz hz0]
        exact h2
      | good st cs =>
        rw [hX] at hwl
        obtain ⟨v, h5, h6⟩ := hwl
        obtain ⟨h7, h8⟩ := mwalk_steps h3 hX
        refine .inr ⟨st, v, h5, h6, h7, h8, fun e' w' h1 h2 => ⟨h1, ?_⟩⟩
        rw [if_neg HY.out, if_neg hz, hX]
        show if (m : Int).toNat < _ then _ else _
        rw [Int.toNat_natCast]
        exact h2
  clear hwl HWK
  rcases hcase with ⟨z, hz, rfl, hR⟩ | ⟨st, v, rfl, hst, hsb, hs0, hR⟩
  · have HR := hid hR
    have HBW := hid (HB0.out.trans (hb1.mono HB0.out.size))
    have hne := fun W => neEr 49 (.int .i64 z) W
    clear hR hb1 HB1
    go_wp2_with fail
    go_ret3
    exact HR.out _ _ HBW.out rfl
  · obtain ⟨g, cap, rfl, hsm, hgl, hcel⟩ := hst.at hs0 (fun s h => (hsb s h).1)
    have HSH := hid (pshown_any p b cL g cap m size aL L st w1 hpr h3 h4 (HPW.out w1 hb1) (by have := HNL.out; omega) (HLW.out w1 hb1) hsb hs0 hsm hcel hm1 hm2)
    rw [← HNL.out] at HSH
    obtain ⟨c0, c1⟩ := HCO.out w1 hb1
    have HR := hid hR
    have HSB := hid hsb
    have HCEL := hid hcel
    obtain ⟨ns, hns⟩ : ∃ ns, ns = st.length := ⟨_, rfl⟩
    have HNS := hid hns
    rw [← hns] at HSH hs0 hsm ⊢
    have hne := fun W => neNr W
    clear hst hR hb1 hsb hcel hns
    go_wp2_with fail
    refine HSH.out.mono ?_
    rintro e w2 ⟨G, K, rfl, hT2, hb2⟩
    have hwp : ∀ x, x ∈ allc (shns p L st m) → 0 ≤ x ∧ x ≤ 2147483647 := fun x hx => by have := allc_shns h3 HSB.out (by have := HNS.out; omega) hx; omega
    have hlens : ∀ k, k < (shns p L st m).length → 20 ≤ (rat (shns p L st m) k).length ∧ (rat (shns p L st m) k).length ≤ 100000 := fun k hk => by
      rw [shns_len] at hk
      rw [shns_rat _ _ _ hk, shn_len]
      have := HNL.out
      omega
    have HFH := hid (pholes_any w1.heap.size G K (shns p L st m) w2 (by rw [shns_len]; omega) hlens hb2.size hT2 hwp)
    rw [shns_len] at HFH
    have HB2 := hid (HB1.out.trans (hb2.mono HB1.out.size))
    have HLE := hid hlens
    have HB12 := hid hb2
    clear HSH c0 c1 hT2 hb2 hwp hlens
    go_wp2_with fail
    refine HFH.out.mono ?_
    rintro e w3 ⟨hb3, hcs⟩
    have HB13 := hid (HB12.out.trans (hb3.mono (Nat.le_refl _)))
    have HB3 := hid (HB0.out.trans ((HB1.out.trans (HB13.out.mono HB1.out.size)).mono HB0.out.size))
    rcases hcs with ⟨hful, rfl⟩ | ⟨hfit, rfl, hT3⟩
    · have HFUL : Hid (m < (tho p L st m).length) := hful
      clear hful hb3 HFH
      go_wp2_with fail
      go_ret3
      exact HR.out _ _ HB3.out (by rw [if_pos HFUL.out]; rfl)
    · have HFIT : Hid (¬ m < (tho p L st m).length) := Nat.not_lt.2 hfit
      have HFI2 : Hid ((tho p L st m).length ≤ m) := hfit
      have hT3' : Tbl w1.heap.size G K w3 (fillH (shns p L st m) (tho p L st m)) := hT3
      have HFS := hid (psorted_any p b w1.heap.size G K (fillH (shns p L st m) (tho p L st m)) w3 h3 h4 (HPW.out w3 (HB1.out.trans (HB13.out.mono HB1.out.size))) (by rw [fillH_len, shns_len]; omega) (fun k hk => by
        rw [fillH_len] at hk
        rw [fillH_row_len hk]
        exact HLE.out k hk) (fits_tab h3 h4 (by have := HNL.out; omega) HSB.out (by have := HNS.out; omega)) HB13.out.size hT3')
      rw [fillH_len, shns_len] at HFS
      clear hb3 HFH hT3 hT3' hfit
      go_wp2_with fail
      refine HFS.out.mono ?_
      rintro e w4 ⟨ps, rfl, hso, hT4, hb4⟩
      have hB14 := HB13.out.trans (hb4.mono (Nat.le_refl _))
      have HB4 := hid (HB0.out.trans ((HB1.out.trans (hB14.mono HB1.out.size)).mono HB0.out.size))
      have HTT : Hid (TabG p L st m (fS (fillH (shns p L st m) (tho p L st m)) ps (4 * m))) := ⟨HFI2.out, ps, hso, rfl⟩
      have HT4 := hid (hT4.mono (Nat.le_trans HB0.out.size HB1.out.size))
      obtain ⟨k, hk⟩ : ∃ k, k = ns - 1 := ⟨_, rfl⟩
      have e1 : (ns : Int) - 1 = (k : Int) := by omega
      have w1' : IntKind.i64.wrap (k : Int) = (k : Int) := by unfold maxLen at hsm; rw [IntKind.wrap_i64]; omega
      have lk : (k : Int) < (ns : Int) := by omega
      have cv : w4.cell? ⟨g, k * 10 + 7, none⟩ = some (.int .i64 (outS st)) := by
        have := HCEL.out k 7 (by have := HNS.out; omega) (by omega)
        rw [show outS st = zat (rat st k) 7 by unfold outS; rw [hk, HNS.out]]
        exact (hB14.cell (p := ⟨g, k * 10 + 7, none⟩) hgl).trans this
      have HEND : Hid (∀ w', w'.heap = w4.heap → Below w.heap.size w w' → PtR p size L (m : Int) w (.returned (.tuple #[.slice (some ⟨G, 0, none⟩) m m, .int .i64 (outS st), .nilIface])) w') := fun w' hh hb => by
        refine HR.out _ _ hb ?_
        rw [if_neg HFIT.out]
        refine ⟨_, G, K, HTT.out, by rw [HTT.out.len], HT4.out.keep (by rw [hh]) (fun _ _ => by rw [hh])⟩
      clear hk hso hT4 hb4 hB14 HFS HB12 HB13 HLE
      generalize outS st = ov at *
      go_wp2_with fail
      go_region
      go_wp2_with fail
      go_ret3
      exact HEND.out w4.drew rfl HB4.out.drew

theorem ptable_any (p b : Nat) (size n : Int) (aL : Option Addr) (cL : Nat) (L : List InsZ) (w : World) (h3 : 3 ≤ p) (h4 : p ≤ 2147483647) (hpr : Num.Prime p) (hp : w.cell? ⟨b, 0, none⟩ = some (.int .i64 p)) (hnL : L.length ≤ 281474976710656) (hL : LstI w.heap.size w aL cL L) (hIB : InsB L) :
    Calls Try.prog 9 #[.pointer (some ⟨b, 0, none⟩), .agg #[.int .i64 size, .slice aL L.length cL], .int .i64 n] w (PtR p size L n w) := by
  by_cases h : n < 1 ∨ 512 < n ∨ 64 < L.length
  · exact ptable_size p b size n aL cL L w hnL h
  · exact ptable_yes p b size n aL cL L w h3 h4 hpr hp hL hIB h

end Go.Proofs.Ytaibngnabhmabak

namespace Go.Proofs.Ytaibngnabhmabak
open Go.RowKit

theorem mem_allc {R : List (List Int)} {a : Int} : a ∈ allc R ↔ ∃ k, k < R.length ∧ (zat (rat R k) 3 = a ∨ zat (rat R k) 4 = a ∨ zat (rat R k) 5 = a) := by
  unfold allc
  rw [List.mem_flatMap]
  constructor
  · rintro ⟨r, hr, h⟩
    obtain ⟨k, hk, rfl⟩ := List.mem_iff_getElem.1 hr
    refine ⟨k, hk, ?_⟩
    have e : rat R k = R[k] := by simp [rat, hk]
    rw [e]
    unfold rc3 at h
    simp only [List.mem_cons, List.not_mem_nil, or_false] at h
    rcases h with h | h | h
    · exact .inl h.symm
    · exact .inr (.inl h.symm)
    · exact .inr (.inr h.symm)
  · rintro ⟨k, hk, h⟩
    refine ⟨rat R k, by simp [rat, hk], ?_⟩
    unfold rc3
    simp only [List.mem_cons, List.not_mem_nil, or_false]
    rcases h with h | h | h
    · exact .inl h.symm
    · exact .inr (.inl h.symm)
    · exact .inr (.inr h.symm)

end Go.Proofs.Ytaibngnabhmabak

namespace Go.Proofs.Ytaibngnabhmabak
open Go.RowKit Go.Maps

/-- a row ahead of its cells -/
def rw3 (nL : Nat) (s : List Int) : List Int := (((List.replicate (20 + nL) (0 : Int)).set 0 (zat s 1)).set 1 (zat s 2)).set 2 (zat s 3)
/-- .. with so many of its cells -/
def rwj (nL : Nat) (s : List Int) : Nat → List Int
  | 0 => rw3 nL s
  | j + 1 => ((rwj nL s j).set (3 + j) (zat s (4 + j))).set (7 + j) (zat s (7 + j))
theorem rwj_len (nL : Nat) (s : List Int) : ∀ j, (rwj nL s j).length = 20 + nL
  | 0 => by simp [rwj, rw3]
  | j + 1 => by simp [rwj, rwj_len nL s j]
theorem rwj_srow (p nL : Nat) (op : Int) (s : List Int) : ((rwj nL s 3).set 11 (hlp p op (zat s 7) (zat s 8))).set (20 + (zat s 0).toNat) 1 = srow p nL op s := by
  unfold srow
  congr 2
  show ((((((rw3 nL s).set 3 (zat s 4)).set 7 (zat s 7)).set 4 (zat s 5)).set 8 (zat s 8)).set 5 (zat s 6)).set 9 (zat s 9) = _
  rw [List.set_comm (zat s 7) (zat s 5) (show (7 : Nat) ≠ 4 by decide), List.set_comm (zat s 8) (zat s 6) (show (8 : Nat) ≠ 5 by decide), List.set_comm (zat s 7) (zat s 6) (show (7 : Nat) ≠ 5 by decide)]
  rfl

/-- the greatest of numbers, or 0 -/
def TopOk (l : List Int) (t : Int) : Prop := 0 ≤ t ∧ (∀ a, a ∈ l → a ≤ t) ∧ (t = 0 ∨ t ∈ l)
theorem topOk_nil : TopOk [] 0 := ⟨Int.le_refl _, fun _ h => (by cases h), .inl rfl⟩
theorem TopOk.keep {l : List Int} {t x : Int} (h : TopOk l t) (hx : ¬ t < x) : TopOk (l ++ [x]) t :=
  ⟨h.1, fun a ha => by
    rcases List.mem_append.1 ha with h1 | h1
    · exact h.2.1 a h1
    · rw [List.mem_singleton] at h1; omega, h.2.2.imp_right fun e => List.mem_append.2 (.inl e)⟩
theorem TopOk.up {l : List Int} {t x : Int} (h : TopOk l t) (hx : t < x) : TopOk (l ++ [x]) x :=
  ⟨by have := h.1; omega, fun a ha => by
    rcases List.mem_append.1 ha with h1 | h1
    · have := h.2.1 a h1; omega
    · rw [List.mem_singleton] at h1; omega, .inr (by simp)⟩
/-- the cells of a step ahead of j -/
def cj (s : List Int) : Nat → List Int
  | 0 => []
  | j + 1 => cj s j ++ [zat s (4 + j)]
theorem zat_other {l : List Int} {k j : Nat} {x : Int} (h : j ≠ k) : zat (l.set k x) j = zat l j := by
  unfold zat
  rw [List.getElem?_set_ne (fun e => h e.symm)]
theorem zat_same {l : List Int} {k : Nat} {x : Int} (h : k < l.length) : zat (l.set k x) k = x := by rw [zat_set h, if_pos rfl]
theorem srow_cells (p nL : Nat) (op : Int) (s : List Int) : rc3 (srow p nL op s) = cj s 3 := by
  have hlen : (List.replicate (20 + nL) (0 : Int)).length = 20 + nL := by simp
  have e3 : zat (srow p nL op s) 3 = zat s 4 := by
    unfold srow
    rw [zat_other (by omega), zat_other (by omega), zat_other (by omega), zat_other (by omega), zat_other (by omega), zat_other (by omega), zat_other (by omega)]
    exact zat_same (by simp only [List.length_set, hlen]; omega)
  have e4 : zat (srow p nL op s) 4 = zat s 5 := by
    unfold srow
    rw [zat_other (by omega), zat_other (by omega), zat_other (by omega), zat_other (by omega), zat_other (by omega), zat_other (by omega)]
    exact zat_same (by simp only [List.length_set, hlen]; omega)
  have e5 : zat (srow p nL op s) 5 = zat s 6 := by
    unfold srow
    rw [zat_other (by omega), zat_other (by omega), zat_other (by omega), zat_other (by omega), zat_other (by omega)]
    exact zat_same (by simp only [List.length_set, hlen]; omega)
  unfold rc3
  rw [e3, e4, e5]
  rfl
/-- the holes, as the reference finds them -/
theorem tho_filter {p : Nat} {L : List InsZ} {st : List (List Int)} {n : Nat} (h3 : 3 ≤ p) (hst : ∀ s, s ∈ st → StB p L.length s) (h0 : 0 < st.length) (hn : 0 < n) {t : Int} (ht : TopOk (allc (shns p L st n)) t) :
    tho p L st n = (gap 0 t).filter fun a => !decide (a ∈ allc (shns p L st n)) := by
  have hon := once_compact (allc (shns p L st n))
  have hb : ∀ a, a ∈ allc (shns p L st n) → 0 ≤ a := fun a ha => (allc_shns h3 hst h0 ha).1
  have hne : ∃ a, a ∈ allc (shns p L st n) := by
    have : 0 < (allc (shns p L st n)).length := by rw [allc_len, shns_len]; omega
    exact List.exists_mem_of_length_pos this
  obtain ⟨a0, ha0⟩ := hne
  have htm : t ∈ allc (shns p L st n) := by
    rcases ht.2.2 with e | e
    · have h1 := ht.2.1 a0 ha0
      have h2 := hb a0 ha0
      have : a0 = t := by omega
      rw [← this]; exact ha0
    · exact e
  have := hol_filter (ascC (shns p L st n)) 0 t hon.1 (fun a ha => hb a ((hon.2 a).1 ha)) (fun e => absurd ((hon.2 a0).2 ha0) (by show a0 ∉ ascC _; rw [e]; simp)) (fun a ha => ht.2.1 a ((hon.2 a).1 ha)) (fun _ => (hon.2 t).2 htm)
  show hol (ascC (shns p L st n)) 0 = _
  rw [this]
  apply List.filter_congr
  intro a _
  have : (a ∈ ascC (shns p L st n)) ↔ a ∈ allc (shns p L st n) := hon.2 a
  simp only [this]

end Go.Proofs.Ytaibngnabhmabak

namespace Go.Proofs.Ytaibngnabhmabak
open Go.RowKit Go.Maps

/-- the example's code, its steps, its rows, their pairs sorted, the table -/
def xtL : List InsZ := [⟨5, 0, 5, 0⟩, ⟨0, 0, 0, 0⟩]
def xtS : List (List Int) := [[0, 1, 2, 0, 1, 0, 0, 5, 0, 0], [1, 1, 2, 0, 1, 0, 0, 5, 0, 0]]
def xtR : List (List Int) := [[1, 2, 0, 1, 0, 0, 0, 5, 0, 0, 0, 0, 0, 0, 0, 0, 0, 0, 0, 0, 1, 0], [1, 2, 0, 1, 0, 0, 0, 5, 0, 0, 0, 0, 0, 0, 0, 0, 0, 0, 0, 0, 0, 1]]
def xtP : List (Int × Int) := [(0, 0), (0, 0), (0, 0), (0, 0), (0, 0), (0, 0), (1, 5), (1, 5)]
def xtT0 : List Int := [1, 2, 0, 1, 0, 0, 0, 5, 0, 0, 0, 0, 0, 0, 0, 0, 0, 0, 0, 0, 1, 0]
def xtT1 : List Int := [1, 2, 0, 1, 0, 0, 0, 5, 0, 0, 0, 0, 0, 0, 1, 1, 0, 0, 5, 5, 0, 1]
theorem xt_walk : ∃ cs, mwalk 97 1 xtL 1 = .good xtS cs := ⟨_, rfl⟩
theorem xt_bounds : InsB xtL := fun k hk => by
  have : k = 0 ∨ k = 1 := by simp [xtL] at hk; omega
  rcases this with rfl | rfl <;> decide
theorem xt_stb : ∀ s, s ∈ xtS → StB 97 xtL.length s := by
  intro s hs
  simp only [xtS, List.mem_cons, List.not_mem_nil, or_false] at hs
  rcases hs with rfl | rfl
  · refine ⟨rfl, fun j hj => ?_, by decide⟩
    have : j = 0 ∨ j = 1 ∨ j = 2 ∨ j = 3 ∨ j = 4 ∨ j = 5 ∨ j = 6 ∨ j = 7 ∨ j = 8 ∨ j = 9 := by omega
    rcases this with rfl | rfl | rfl | rfl | rfl | rfl | rfl | rfl | rfl | rfl <;> decide
  · refine ⟨rfl, fun j hj => ?_, by decide⟩
    have : j = 0 ∨ j = 1 ∨ j = 2 ∨ j = 3 ∨ j = 4 ∨ j = 5 ∨ j = 6 ∨ j = 7 ∨ j = 8 ∨ j = 9 := by omega
    rcases this with rfl | rfl | rfl | rfl | rfl | rfl | rfl | rfl | rfl | rfl <;> decide
theorem xt_shns : shns 97 xtL xtS 2 = xtR := by decide
theorem xt_tho : tho 97 xtL xtS 2 = [] := by
  rw [tho_filter (p := 97) (t := 1) (by decide) xt_stb (by decide) (by decide) ⟨by decide, by rw [xt_shns]; decide, .inr (by rw [xt_shns]; decide)⟩, xt_shns]
  decide
theorem xt_fill : fillH (shns 97 xtL xtS 2) (tho 97 xtL xtS 2) = xtR := by rw [xt_tho, xt_shns]; decide
theorem xt_tab : TabG 97 xtL xtS 2 [xtT0, xtT1] := by
  refine ⟨by rw [xt_tho]; decide, xtP, ?_, ?_⟩
  · rw [xt_fill]
    refine ⟨by decide, ?_⟩
    decide
  · rw [xt_fill]; decide

set_option maxHeartbeats 1000000 in
theorem plain7_yes (q : Nat) (w : World) (h3 : 3 ≤ q) (h4 : q ≤ 2147483647) (hpr : Num.Prime q) :
    Calls Try.prog 5 #[.int .i64 q] w fun e w' => e = .returned (.pointer (some ⟨w.heap.size, 0, none⟩)) ∧ w'.cell? ⟨w.heap.size, 0, none⟩ = some (.int .i64 q) ∧ Below w.heap.size w w' := by
  have HF := hid (new_yes q w h3 h4 hpr)
  clear hpr
  go_enter Try.func5, Try.ntmps5
  go_wp2_with fail
  refine HF.out.mono ?_
  rintro e w1 ⟨rfl, hc1, hb1, hlt1⟩
  have HE : Hid (w1.cell? ⟨w.heap.size, 0, none⟩ = some (.int .i64 q) ∧ Below w.heap.size w w1) := ⟨hc1, hb1⟩
  clear hc1 hb1 HF
  go_wp2_with fail
  go_ret
  exact ⟨rfl, HE.out⟩
set_option maxHeartbeats 1000000 in
theorem plain7_no (p : Int) (w : World) (hno : ¬ okPrime p) (hp1 : -9223372036854775808 ≤ p) (hp2 : p ≤ 9223372036854775807) :
    Calls Try.prog 5 #[.int .i64 p] w fun e w' => e = .returned (.pointer none) ∧ w' = w := by
  have HF := hid (new_no p w hno hp1 hp2)
  clear hno hp1 hp2
  go_enter Try.func5, Try.ntmps5
  go_wp2_with fail
  refine HF.out.mono ?_
  rintro e w1 ⟨rfl, rfl⟩
  go_wp2_with fail
  go_ret
  exact ⟨rfl, rfl⟩

/-- a row of numbers in a block -/
theorem rowB_of_block {w : World} {g : Nat} {zs : List Int} {t : TypeId} {r : Nat × Nat} (h : w.heap[g]? = some (.cells (zs.map (Value.int .i64)).toArray t r)) : RowB w.heap.size w (some ⟨g, 0, none⟩) zs := fun k hk => by
  refine ⟨g, 0, rfl, (Array.getElem?_eq_some_iff.1 h).1, ?_⟩
  simp [World.cell?, h, hk, zat]

set_option maxRecDepth 100000 in
set_option maxHeartbeats 4000000 in
theorem lives7_any (w : World) : Calls Try.prog 4 #[] w fun e w' => e = .returned (.bool true) ∧ Below w.heap.size w w' := by
  have HF := hid (plain7_yes 97 w (by decide) (by decide) prime97M)
  go_enter Try.func4, Try.ntmps4
  go_wp2_with fail
  refine HF.out.mono ?_
  rintro e w1 ⟨rfl, hc1, hb1⟩
  have HB1 := hid hb1
  clear hb1 HF
  go_wp2_with fail
  obtain ⟨V, hV⟩ : ∃ V, V = w1.alloc (.cells #[.int .i64 5, .int .i64 0, .int .i64 5, .int .i64 0, .int .i64 0, .int .i64 0, .int .i64 0, .int .i64 0] 33) := ⟨_, rfl⟩
  obtain ⟨W2, hW2⟩ : ∃ W2, W2 = V.alloc (.cells #[.int .i64 1, .slice (some ⟨w1.heap.size, 0, none⟩) 2 2] 36) := ⟨_, rfl⟩
  have b1 : Below w1.heap.size w1 V := by rw [hV]; exact (Below.refl _ _).alloc (Nat.le_refl _) _
  have b2 : Below V.heap.size V W2 := by rw [hW2]; exact (Below.refl _ _).alloc (Nat.le_refl _) _
  have hs : V.heap.size = w1.heap.size + 1 := by rw [hV]; simp
  have hs2 : W2.heap.size = V.heap.size + 1 := by rw [hW2]; simp
  have b12 := b1.trans (b2.mono b1.size)
  have hrow : W2.heap[w1.heap.size]? = some (.cells #[.int .i64 5, .int .i64 0, .int .i64 5, .int .i64 0, .int .i64 0, .int .i64 0, .int .i64 0, .int .i64 0] 33 (0, 0)) := (b2.block _ (by omega)).trans (by rw [hV]; exact heap_alloc_new w1 _)
  have HLI : Hid (LstI W2.heap.size W2 (some ⟨w1.heap.size, 0, none⟩) 2 xtL) := by
    refine ⟨fun k hk => ⟨w1.heap.size, 0, rfl, by omega, ?_⟩, Nat.le_refl _, fun h => by cases h⟩
    have : k = 0 ∨ k = 1 := by simp [xtL] at hk; omega
    rcases this with rfl | rfl <;> simp [World.cell?, hrow, insat, xtL]
  have HRN := hid (ptable_any 97 w.heap.size 1 2 (some ⟨w1.heap.size, 0, none⟩) 2 xtL W2 (by decide) (by decide) prime97M ((b12.cell (p := ⟨w.heap.size, 0, none⟩) (World.block_lt_of_cell? _ _ hc1)).trans hc1) (by decide) HLI.out xt_bounds)
  have HB2 := hid (HB1.out.trans (b12.mono HB1.out.size))
  rw [← hV, ← hW2]
  clear hV hW2 b1 b2 hs hs2 b12 hrow HLI HB1 hc1
  refine HRN.out.mono ?_
  rintro e w3 ⟨hb3, hr3⟩
  obtain ⟨cs, hX⟩ := xt_walk
  have hf0 : ¬ fz6 ((97 : Nat) : Int) 1 xtL.length (2 - 1) ≠ 0 := by decide
  rw [if_neg (by decide), if_neg hf0, show (2 - 1 : Int).toNat = 1 from rfl, hX] at hr3
  have hth : ¬ (2 : Int).toNat < (tho 97 xtL xtS (2 : Int).toNat).length := by rw [show (2 : Int).toNat = 2 from rfl, xt_tho]; decide
  simp only [if_neg hth] at hr3
  obtain ⟨T, G, K, hT, rfl, hTb⟩ := hr3
  obtain rfl : T = [xtT0, xtT1] := hT.one xt_tab
  have o0 := hTb.out 0 (by decide)
  have o1 := hTb.out 1 (by decide)
  have HW0 := hid ((hTb.row 0 (by decide)).lst (hTb.row 0 (by decide)).lt).row
  have HW1 := hid ((hTb.row 1 (by decide)).lst (hTb.row 1 (by decide)).lt).row
  have HB3 := hid (HB2.out.trans (hb3.mono HB2.out.size))
  have q5 : outS xtS = 5 := by decide
  rw [q5]
  rw [show (rat [xtT0, xtT1] 0).length = 22 from rfl] at o0
  rw [show (rat [xtT0, xtT1] 1).length = 22 from rfl] at o1
  rw [show rat [xtT0, xtT1] 0 = xtT0 from rfl] at HW0
  rw [show rat [xtT0, xtT1] 1 = xtT1 from rfl] at HW1
  have HGL := hid hTb.lt
  clear hT hTb hf0 hth hX q5 HB2 HRN hb3 cs
  generalize K 0 = K0 at *
  generalize K 1 = K1 at *
  obtain ⟨W4, hW4⟩ : ∃ W4, W4 = w3.alloc (.cells #[.int .i64 1, .int .i64 2, .int .i64 0, .int .i64 1, .int .i64 0, .int .i64 0, .int .i64 0, .int .i64 5, .int .i64 0, .int .i64 0, .int .i64 0, .int .i64 0, .int .i64 0, .int .i64 0, .int .i64 0, .int .i64 0, .int .i64 0, .int .i64 0, .int .i64 0, .int .i64 0, .int .i64 1, .int .i64 0] 3) := ⟨_, rfl⟩
  have hb4 : Below w3.heap.size w3 W4 := by rw [hW4]; exact (Below.refl _ _).alloc (Nat.le_refl _) _
  have HI4 := hid (ints_any xtT0 xtT0 _ _ W4 (rowZ_of_B 22 (RowB.mono hb4.size (RowB.below hb4 HW0.out))) (rowZ_of_B 22 (rowB_of_block (w := W4) (g := w3.heap.size) (zs := xtT0) (t := 3) (r := (0, 0)) (by rw [hW4]; exact heap_alloc_new w3 _))) (by decide) (by decide))
  rw [decide_eq_true rfl, show xtT0.length = 22 from rfl] at HI4
  have HB4 := hid hb4
  clear hb4
  go_wp2_with fail
  rw [← hW4]
  clear hW4 o0
  refine HI4.out.mono ?_
  rintro e w5 ⟨rfl, k5, rfl⟩
  have hb5 : Below w3.heap.size w3 (W4.drewN k5) := below_drewN HB4.out k5
  have HB5 := hid hb5
  have o1' := (hb5.cell (p := ⟨G, 1, none⟩) HGL.out).trans o1
  generalize W4.drewN k5 = w5 at *
  obtain ⟨W6, hW6⟩ : ∃ W6, W6 = w5.alloc (.cells #[.int .i64 1, .int .i64 2, .int .i64 0, .int .i64 1, .int .i64 0, .int .i64 0, .int .i64 0, .int .i64 5, .int .i64 0, .int .i64 0, .int .i64 0, .int .i64 0, .int .i64 0, .int .i64 0, .int .i64 1, .int .i64 1, .int .i64 0, .int .i64 0, .int .i64 5, .int .i64 5, .int .i64 0, .int .i64 1] 3) := ⟨_, rfl⟩
  have hb6 : Below w5.heap.size w5 W6 := by rw [hW6]; exact (Below.refl _ _).alloc (Nat.le_refl _) _
  have hb36 := HB5.out.trans (hb6.mono HB5.out.size)
  have HI6 := hid (ints_any xtT1 xtT1 _ _ W6 (rowZ_of_B 22 (RowB.mono hb36.size (RowB.below hb36 HW1.out))) (rowZ_of_B 22 (rowB_of_block (w := W6) (g := w5.heap.size) (zs := xtT1) (t := 3) (r := (0, 0)) (by rw [hW6]; exact heap_alloc_new w5 _))) (by decide) (by decide))
  rw [decide_eq_true rfl, show xtT1.length = 22 from rfl] at HI6
  have HB6 := hid (HB3.out.trans (hb36.mono HB3.out.size))
  clear hb6 hb36 o1 HB4 HI4 HB5 hb5
  go_wp2_with fail
  rw [← hW6]
  clear hW6 o1'
  refine HI6.out.mono ?_
  rintro e w7 ⟨rfl, k7, rfl⟩
  have HB7 := hid (below_drewN HB6.out k7)
  clear HI6
  go_wp2_with fail
  go_ret
  exact ⟨rfl, HB7.out⟩

end Go.Proofs.Ytaibngnabhmabak
