/- The law DomainBack answers true: any values are those of one polynomial of low degree. -/
import Derived.Test.YtidkhgplejglaacDoorDomM
import Derived.Test.YtidkhgplejglaacDoorLawDValues
namespace Go.Proofs.YtidkhgplejglaacDoor
open Go.RowKit

theorem ls_congr {f g : Nat → Int} {n : Nat} (h : ∀ j, j < n → f j = g j) : ls f n = ls g n := by
  unfold ls
  exact List.map_congr_left (fun j hj => h j (List.mem_range.1 hj))

set_option maxRecDepth 1000000 in
set_option maxHeartbeats 4000000 in
theorem dback_walk (p n s : Int) (a1 : Option Addr) (c1 : Nat) (xs : List Int) (w : World) (hL : Laid w) (hp1 : -9223372036854775808 ≤ p) (hp2 : p ≤ 9223372036854775807) (hn1 : -9223372036854775808 ≤ n) (hn2 : n ≤ 9223372036854775807) (hs1 : -9223372036854775808 ≤ s) (hs2 : s ≤ 9223372036854775807)
    (_hlx : xs.length ≤ 17592186043904) (hf1 : Fits xs) (hl1 : Lst w.heap.size w a1 c1 xs) :
    Calls Tryd.prog 5 #[.int .i64 p, .int .i64 n, .int .i64 s, .slice a1 xs.length c1] w fun e w' => e = .returned (.bool true) ∧ Below w.heap.size w w' := by
  have HF1 := hid hf1
  have HL1 := hid hl1
  have HLW := hid hL
  clear hf1 hl1
  by_cases hgood : Good p n s
  · obtain ⟨q, k, rfl, rfl, hg⟩ := hgood
    have HG := hid hg
    obtain ⟨hpr, h3, h4, hk, hd, hs⟩ := hg
    have hnp : 0 < 2 ^ k := Nat.pow_pos (by decide)
    have hnl := two_pow_le hk
    have HPR := hid hpr
    have HM := hid (fun w1 => made_yes q k s w1 HG.out hs1 hs2)
    have HRT : Hid (∀ r : Nat, RootIs q ((2 ^ k : Nat) : Int) r → Dom.Ord q (r : Int) (2 ^ k) ∧ r < q) := fun r h => root_ord2 HG.out.pr h3 HG.out.hd h
    clear hpr hd hs hp1 hp2 hn1 hn2 hL
    by_cases hlen : xs.length = 2 ^ k
    · have HCO : Hid (∀ (b d : Nat) (r t : Int) (w2 : World), w2.cell? ⟨b, 0, none⟩ = some (.int .i64 q) → DomAt w2 d b ((2 ^ k : Nat) : Int) r t → 0 ≤ r → r < q → Dom.Ord q r (2 ^ k) → 0 ≤ t → t < q → Lst w2.heap.size w2 a1 c1 xs →
          Calls Tryd.prog 20 #[.pointer (some ⟨d, 0, none⟩), .slice a1 (2 ^ k) c1] w2 fun e w' =>
          ∃ (g c : Nat), e = .returned (.tuple #[.slice (some ⟨g, 0, none⟩) (Pol.trim q (ls (coefs q xs (2 ^ k) (invn q r) (invn q ((2 ^ k : Nat) : Int)) (invn q t)) (2 ^ k))).length c, .nilIface]) ∧
            Lst w'.heap.size w' (some ⟨g, 0, none⟩) c (Pol.trim q (ls (coefs q xs (2 ^ k) (invn q r) (invn q ((2 ^ k : Nat) : Int)) (invn q t)) (2 ^ k))) ∧ Below w2.heap.size w2 w') :=
        fun b d r t w2 z1 z2 z3 z4 z5 z6 z7 z8 => coef_any q b d k (2 ^ k) c1 r t a1 xs w2 HPR.out h3 h4 z1 z2 hk rfl z3 z4 z5 z6 z7 hlen HF1.out z8
      have HVAL : Hid (∀ (b d cap : Nat) (r t : Int) (a : Option Addr) (zs : List Int) (w2 : World), w2.cell? ⟨b, 0, none⟩ = some (.int .i64 q) → DomAt w2 d b ((2 ^ k : Nat) : Int) r t → 0 ≤ r → r < q → Dom.Ord q r (2 ^ k) → 0 ≤ t → t < q → zs.length ≤ 281474976710656 → Fits zs → RowB w2.heap.size w2 a zs →
          Calls Tryd.prog 18 #[.pointer (some ⟨d, 0, none⟩), .slice a zs.length cap] w2 fun e w' =>
            e = .returned (.slice (some ⟨w2.heap.size, 0, none⟩) (2 ^ k) (2 ^ k)) ∧ w'.rowIs w2.heap.size 3 (2 ^ k) (fun j => .int .i64 (evz q zs (Dom.pt q t r j))) ∧ Below w2.heap.size w2 w' ∧ w2.heap.size < w'.heap.size) :=
        fun b d cap r t a zs w2 z1 z2 z3 z4 z5 z6 z7 z8 z9 z10 => values_any q b d k (2 ^ k) cap r t (· < w2.heap.size) a zs w2 HPR.out h3 h4 z1 z2 hk rfl z3 z4 z5 z6 z7 z8 z9 z10 (fun _ h => h)
      have HEV : Hid (∀ r : Nat, Dom.Ord q (r : Int) (2 ^ k) → ls (fun j => evz q (Pol.trim q (ls (coefs q xs (2 ^ k) (invn q r) (invn q ((2 ^ k : Nat) : Int)) (invn q (s % (q : Int)))) (2 ^ k))) (Dom.pt q (s % (q : Int)) r j)) (2 ^ k) = ls (fun j => zat xs j % (q : Int)) (2 ^ k)) :=
        fun r h => ls_congr (fun j hj => evz_coefs HPR.out h3 xs h (not_dvd_of_emod HG.out.hs) (two_pow_nd HPR.out h3 k) j hj)
      have HALL : Hid (∀ w2 : World, Lst w2.heap.size w2 a1 c1 xs → Calls Tryd.prog 22 #[.int .i64 q, .slice a1 (2 ^ k) c1] w2 fun e w' => ∃ a' c', e = .returned (.slice a' (2 ^ k) c') ∧ Lst w'.heap.size w' a' c' (ls (fun j => zat xs j % (q : Int)) (2 ^ k)) ∧ Below w2.heap.size w2 w') :=
        fun w2 h => rall_any q (2 ^ k) c1 a1 (zat xs) w2 h3 h4 (by omega) (fun j hj => HF1.out j (by omega)) (fun j hj => h.row j (by omega))
      rw [hlen]
      clear hlen
      generalize 2 ^ k = N at *
      have hne : ((N : Int) != (N : Int)) = false := by simp
      go_enter Tryd.func5, Tryd.ntmps5
      go_wp2_with fail
      refine (HM.out _).mono ?_
      rintro e w1 ⟨b, d, r, rfl, hr, hc1, hda, hb1⟩
      obtain ⟨hord, hrlt⟩ := HRT.out r hr
      have HORD := hid hord
      have HEV2 := hid (HEV.out r hord)
      obtain ⟨t0, t1⟩ := emod_bounds s q h3
      generalize s % (q : Int) = t at *
      have hba : Below w1.heap.size w1 (w1.alloc (.cells #[.int .i64 q, .int .i64 N, .int .i64 t, .int .i64 r] 24)) := (Below.refl _ _).alloc (Nat.le_refl _) _
      have HC1 := hid ((hba.cell (p := ⟨b, 0, none⟩) (heap_lt hc1)).trans hc1)
      have HDA := hid (hda.below hba hda.lt)
      have HB1 := hid (hb1.trans (hba.mono hb1.size))
      have HL2 := hid ((((HL1.out.below hb1).mono hb1.size).below hba).mono hba.size)
      clear hr hord hc1 hda hb1 HM HRT HEV HL1 hba
      go_wp2_with fail
      generalize (w1.alloc (.cells #[.int .i64 q, .int .i64 N, .int .i64 t, .int .i64 r] 24)) = w1' at *
      refine (HCO.out b d r t w1' HC1.out HDA.out (by omega) (by omega) HORD.out t0 t1 HL2.out).mono ?_
      rintro e w2 ⟨g, c, rfl, hlt, hb2⟩
      have HTC : Hid (Pol.Can q (Pol.trim q (ls (coefs q xs N (invn q r) (invn q (N : Int)) (invn q t)) N))) := Pol.trim_can (by omega) _
      have htl : (Pol.trim q (ls (coefs q xs N (invn q r) (invn q (N : Int)) (invn q t)) N)).length ≤ N := by have := Pol.trim_le q (ls (coefs q xs N (invn q r) (invn q (N : Int)) (invn q t)) N); rw [ls_len] at this; exact this
      generalize Pol.trim q (ls (coefs q xs N (invn q r) (invn q (N : Int)) (invn q t)) N) = ts at *
      have HT2 := hid hlt
      have HC2 := hid ((hb2.cell (p := ⟨b, 0, none⟩) (heap_lt HC1.out)).trans HC1.out)
      have HD2 := hid (HDA.out.below hb2 HDA.out.lt)
      have HL3 := hid ((HL2.out.below hb2).mono hb2.size)
      have HB2 : Hid (Below w.heap.size w w2) := HB1.out.trans (hb2.mono HB1.out.size)
      have HTI : Hid (Pol.trim q ts = ts) := Pol.trim_id (by omega) HTC.out
      have HRTR := hid (rtrim_any q c (some ⟨g, 0, none⟩) ts w2 h3 h4 (by omega) (can_fits h4 HTC.out) hlt)
      rw [HTI.out] at HRTR
      clear hlt hb2 HC1 HDA HL2 HCO
      go_wp2_with fail
      refine HRTR.out.mono ?_
      rintro e w3 ⟨at3, ct3, rfl, hl3, hb3⟩
      have HA3 : Hid (Alive w3 [(at3, ts), (some ⟨g, 0, none⟩, ts)]) := ((Alive.nil w3).cons ((HT2.out.row.below hb3).mono hb3.size)).cons hl3.row
      have HC3 := hid ((hb3.cell (p := ⟨b, 0, none⟩) (heap_lt HC2.out)).trans HC2.out)
      have HD3 := hid (HD2.out.below hb3 HD2.out.lt)
      have HL4 := hid ((HL3.out.below hb3).mono hb3.size)
      have HB3 : Hid (Below w.heap.size w w3) := HB2.out.trans (hb3.mono HB2.out.size)
      clear hl3 hb3 HT2 HRTR HC2 HD2 HL3
      go_wp2_with fail
      refine (ints_same _ _ ts _ _ ct3 c w3 (HA3.out.at 0 rfl) (HA3.out.at 1 rfl) (by omega)).mono ?_
      rintro e w4 ⟨rfl, n4, rfl⟩
      have HA4 := hid (HA3.out.drewN n4)
      have HC4 : Hid ((w3.drewN n4).cell? ⟨b, 0, none⟩ = some (.int .i64 q)) := HC3.out
      have HD4 : Hid (DomAt (w3.drewN n4) d b N r t) := HD3.out.below (below_drewN (Below.refl w3.heap.size w3) n4) HD3.out.lt
      have HL5 : Hid (Lst (w3.drewN n4).heap.size (w3.drewN n4) a1 c1 xs) := HL4.out.below (below_drewN (Below.refl w3.heap.size w3) n4)
      have HB4 := hid (below_drewN HB3.out n4)
      clear HA3 HC3 HD3 HL4 HB3
      generalize w3.drewN n4 = w4 at *
      go_wp2_with fail
      refine (HVAL.out b d c r t (some ⟨g, 0, none⟩) ts w4 HC4.out HD4.out (by omega) (by omega) HORD.out t0 t1 (by omega) (can_fits h4 HTC.out) (HA4.out.at 1 rfl)).mono ?_
      rintro e w5 ⟨rfl, hri, hb5, hlt5⟩
      have HR5 : Hid (RowB w5.heap.size w5 (some ⟨w4.heap.size, 0, none⟩) (ls (fun j => zat xs j % (q : Int)) N)) := by unfold Hid; rw [← HEV2.out]; exact rowB_of_F hri (Nat.le_refl _) (fun _ _ => rfl) hlt5
      have HL6 := hid ((HL5.out.below hb5).mono hb5.size)
      have HB5 : Hid (Below w.heap.size w w5) := HB4.out.trans (hb5.mono HB4.out.size)
      clear hri hb5 HL5 HA4 HC4 HD4 HVAL HEV2
      go_wp2_with fail
      refine (HALL.out w5 HL6.out).mono ?_
      rintro e w6 ⟨a6, c6, rfl, hl6, hb6⟩
      have HR6 := hid ((HR5.out.below hb6).mono hb6.size)
      have HB6 : Hid (Below w.heap.size w w6) := HB5.out.trans (hb6.mono HB5.out.size)
      have HI := hid (ints_same _ _ (ls (fun j => zat xs j % (q : Int)) N) _ _ N c6 w6 HR6.out hl6.row (by rw [ls_len]; omega))
      rw [ls_len] at HI
      clear hl6 hb6 HALL
      go_wp2_with fail
      refine HI.out.mono ?_
      rintro e w7 ⟨rfl, n7, rfl⟩
      have htl2 : (ts.length : Int) ≤ (N : Int) := by omega
      go_wp2_with fail
      go_ret
      exact ⟨rfl, below_drewN HB6.out _⟩
    · have HCS : Hid (∀ (b d : Nat) (r t : Int) (w2 : World), DomAt w2 d b ((2 ^ k : Nat) : Int) r t → Calls Tryd.prog 20 #[.pointer (some ⟨d, 0, none⟩), .slice a1 xs.length c1] w2 fun e w' => e = .returned (.tuple #[.slice none 0 0, .iface 61 (.int .i64 2)]) ∧ w' = w2) :=
        fun b d r t w2 z => coef_size b d (2 ^ k) c1 r t a1 xs.length w2 z hlen
      have hne : ((xs.length : Int) != ((2 ^ k : Nat) : Int)) = true := by rw [bne_iff_ne]; omega
      clear hlen
      generalize 2 ^ k = N at *
      go_enter Tryd.func5, Tryd.ntmps5
      go_wp2_with fail
      refine (HM.out _).mono ?_
      rintro e w1 ⟨b, d, r, rfl, hr, hc1, hda, hb1⟩
      generalize s % (q : Int) = t at *
      have hba : Below w1.heap.size w1 (w1.alloc (.cells #[.int .i64 q, .int .i64 N, .int .i64 t, .int .i64 r] 24)) := (Below.refl _ _).alloc (Nat.le_refl _) _
      have HB1 := hid (hb1.trans (hba.mono hb1.size))
      have HDA := hid (hda.below hba hda.lt)
      have HL2 := hid ((HLW.out.below hb1).below hba)
      clear hr hc1 hda hb1 HM HRT hba
      go_wp2_with fail
      generalize (w1.alloc (.cells #[.int .i64 q, .int .i64 N, .int .i64 t, .int .i64 r] 24)) = w1' at *
      refine (HCS.out b d r t w1' HDA.out).mono ?_
      rintro e w2 ⟨rfl, rfl⟩
      go_wp2_with fail
      refine (error_hit 2 2 w2 HL2.out).mono ?_
      rintro e w3 ⟨rfl, hb3⟩
      have HB3 : Hid (Below w.heap.size w w3) := HB1.out.trans (hb3.mono HB1.out.size)
      clear hb3
      go_wp2_with fail
      go_ret
      exact ⟨rfl, HB3.out⟩
  · have HM := hid (made_no p n s w hL hgood hp1 hp2 hn1 hn2 hs1 hs2)
    clear hgood
    go_enter Tryd.func5, Tryd.ntmps5
    go_wp2_with fail
    refine HM.out.mono ?_
    rintro e w1 ⟨rfl, hb1⟩
    have HB1 := hid hb1
    clear hb1
    go_wp2_with fail
    go_ret
    first
      | exact ⟨rfl, HB1.out⟩
      | exact ⟨rfl, HB1.out.alloc HB1.out.size _⟩

end Go.Proofs.YtidkhgplejglaacDoor
