/- MachineLonger: the walk. -/
import Derived.Test.YthemehdcakimgaiDoorMahX
import Derived.Test.YthemehdcakimgaiDoorBiAR
namespace Go.Proofs.YthemehdcakimgaiDoor
open Go.RowKit Go.Maps

set_option maxRecDepth 100000 in
set_option maxHeartbeats 4000000 in
/-- where there is a field -/
theorem mlonger_yes (SO : SrtAs) (q : Nat) (size limit other : Int) (aL : Option Addr) (cL : Nat) (L : List InsZ) (w : World) (hL : Laid w) (h3 : 3 ≤ q) (h4 : q ≤ 2147483647) (hpr : Num.Prime q) (hn : L.length ≤ 281474976710656) (hl : LstI w.heap.size w aL cL L) (hIB : InsB L) :
    Calls Tryd.prog 5 #[.int .i64 q, .agg #[.int .i64 size, .slice aL L.length cL], .int .i64 limit, .int .i64 other] w fun e w' => e = .returned (.bool true) ∧ Below w.heap.size w w' := by
  obtain ⟨W0, hW0⟩ : ∃ W0, W0 = w.alloc (.cells #[.int .i64 size, .slice aL L.length cL] 24) := ⟨_, rfl⟩
  have hb0 : Below w.heap.size w W0 := by rw [hW0]; exact (Below.refl _ _).alloc (Nat.le_refl _) _
  have HC0 : Hid (W0.heap[w.heap.size]? = some (.cells #[.int .i64 size, .slice aL L.length cL] 24 (0, 0))) := by unfold Hid; rw [hW0]; exact heap_alloc_new w _
  have HB0 := hid hb0
  have HLV := hid (lives6_any SO W0)
  have HSO := hid SO
  have HL := hid hl
  have HLD := hid hL
  have HIB := hid hIB
  have HPR := hid hpr
  have HNE := hid hn
  have HRW := hid (fun (lim : Int) (b : Nat) (W : World) (hb : Below w.heap.size w W) (hc : W.cell? ⟨b, 0, none⟩ = some (.int .i64 q)) => prun_any SO q b size lim aL cL L W h3 h4 hpr hc hn ((hl.below hb).mono hb.size) hIB)
  obtain ⟨nL, hnL⟩ : ∃ nL, nL = L.length := ⟨_, rfl⟩
  have HNL := hid hnL
  rw [← hnL] at HC0 hW0 HRW ⊢
  clear hb0 hl hL hIB hpr hnL hn SO
  go_enter Tryd.func5, Tryd.ntmps5
  go_wp2_with fail
  rw [← hW0]
  refine HLV.out.mono ?_
  rintro e w1 ⟨rfl, hb1⟩
  have HB1 := hid (HB0.out.trans (hb1.mono HB0.out.size))
  have HC1 := hid ((hb1.block _ (Array.getElem?_eq_some_iff.1 HC0.out).1).trans HC0.out)
  have HPL := hid (plain6_yes q w1 h3 h4 HPR.out)
  clear hb1 HB0 HC0 HLV hW0
  go_wp2_with fail
  refine HPL.out.mono ?_
  rintro e w2 ⟨rfl, hc2, hb2⟩
  have HB2 := hid (HB1.out.trans (hb2.mono HB1.out.size))
  have HC2 := hid ((hb2.block _ (Array.getElem?_eq_some_iff.1 HC1.out).1).trans HC1.out)
  have HK2 := hid hc2
  have k0 : w2.cell? ⟨w.heap.size, 0, none⟩ = some (.int .i64 size) := by simp [World.cell?, HC2.out]
  have k1 : w2.cell? ⟨w.heap.size, 1, none⟩ = some (.slice aL nL cL) := by simp [World.cell?, HC2.out]
  clear hb2 HB1 HC1 HPL hc2
  go_wp2_with fail
  refine (HRW.out limit w1.heap.size w2 HB2.out HK2.out).mono ?_
  intro e w3 hr3
  have hb3 := hr3.1
  have HB3 := hid (HB2.out.trans (hb3.mono HB2.out.size))
  have HC3 := hid ((hb3.block _ (Array.getElem?_eq_some_iff.1 HC2.out).1).trans HC2.out)
  have HK3 := hid ((hb3.cell (p := ⟨w1.heap.size, 0, none⟩) (World.block_lt_of_cell? _ _ HK2.out)).trans HK2.out)
  have HX3 := hid hr3.cases
  clear hr3 hb3 k0 k1 HB2 HC2 HK2
  rcases HX3.out with ⟨z, hz, rfl, hwhy⟩ | ⟨hf0, l, cs, a, c, l', hX, hl0, rfl, hcl, hasc⟩
  · clear HX3 hwhy hz
    obtain ⟨W3, hW3⟩ : ∃ W3, W3 = w3.alloc (.cells #[.int .i64 0, .int .i64 0, .slice none 0 0] 31) := ⟨_, rfl⟩
    have hbb : Below w3.heap.size w3 W3 := by rw [hW3]; exact (Below.refl _ _).alloc (Nat.le_refl _) _
    have HB4 := hid (HB3.out.trans (hbb.mono HB3.out.size))
    have HC4 := hid ((hbb.block _ (Array.getElem?_eq_some_iff.1 HC3.out).1).trans HC3.out)
    have HK4 := hid ((hbb.cell (p := ⟨w1.heap.size, 0, none⟩) (World.block_lt_of_cell? _ _ HK3.out)).trans HK3.out)
    have k0 : W3.cell? ⟨w.heap.size, 0, none⟩ = some (.int .i64 size) := by simp [World.cell?, HC4.out]
    have k1 : W3.cell? ⟨w.heap.size, 1, none⟩ = some (.slice aL nL cL) := by simp [World.cell?, HC4.out]
    have j0 : w3.cell? ⟨w.heap.size, 0, none⟩ = some (.int .i64 size) := by simp [World.cell?, HC3.out]
    have j1 : w3.cell? ⟨w.heap.size, 1, none⟩ = some (.slice aL nL cL) := by simp [World.cell?, HC3.out]
    have hlt3 : w.heap.size < w3.heap.size := (Array.getElem?_eq_some_iff.1 HC3.out).1
    clear hbb HB3 HC3 HK3
    clear k0 k1
    go_wp2_with fail
    rw [← hW3]
    clear hW3 j0 j1 hlt3
    refine (HRW.out other w1.heap.size W3 HB4.out HK4.out).mono ?_
    intro e w4 hr4
    have HB5 := hid (HB4.out.trans (hr4.1.mono HB4.out.size))
    have HX4 := hid hr4.cases
    clear hr4 HB4 HC4 HK4 HRW
    rcases HX4.out with ⟨z2, _, rfl, _⟩ | ⟨_, l, cs, a, c, l', _, _, rfl, _, _⟩
    · clear HX4
      go_wp2_with fail
      go_ret
      exact ⟨rfl, HB5.out.alloc HB5.out.size _⟩
    · clear HX4
      go_wp2_with fail
      go_ret
      exact ⟨rfl, HB5.out.alloc HB5.out.size _⟩
  · have HF0 := hid hf0
    have HXX := hid hX
    have HCL := hid hcl
    have HAC := hid hasc
    obtain ⟨o, ho⟩ : ∃ o, o = outv l := ⟨_, rfl⟩
    obtain ⟨k, hk⟩ : ∃ k, l.length - 1 = k := ⟨_, rfl⟩
    obtain ⟨n', hn'⟩ : ∃ n', n' = l'.length := ⟨_, rfl⟩
    have HOU := hid ho
    have HKK := hid hk
    have HN' := hid hn'
    rw [← ho, hk, ← hn']
    rw [← hn'] at HCL
    clear HX3 hf0 hX hcl hasc ho hk hn' hl0
    obtain ⟨W3, hW3⟩ : ∃ W3, W3 = w3.alloc (.cells #[.int .i64 o, .int .i64 (k : Int), .slice a n' c] 31) := ⟨_, rfl⟩
    have hbb : Below w3.heap.size w3 W3 := by rw [hW3]; exact (Below.refl _ _).alloc (Nat.le_refl _) _
    have HA4 : Hid (W3.heap[w3.heap.size]? = some (.cells #[.int .i64 o, .int .i64 (k : Int), .slice a n' c] 31 (0, 0))) := by unfold Hid; rw [hW3]; exact heap_alloc_new w3 _
    have HB4 := hid (HB3.out.trans (hbb.mono HB3.out.size))
    have HCL4 := hid (HCL.out.belowM hbb)
    have HC4 := hid ((hbb.block _ (Array.getElem?_eq_some_iff.1 HC3.out).1).trans HC3.out)
    have HK4 := hid ((hbb.cell (p := ⟨w1.heap.size, 0, none⟩) (World.block_lt_of_cell? _ _ HK3.out)).trans HK3.out)
    have k0 : W3.cell? ⟨w.heap.size, 0, none⟩ = some (.int .i64 size) := by simp [World.cell?, HC4.out]
    have k1 : W3.cell? ⟨w.heap.size, 1, none⟩ = some (.slice aL nL cL) := by simp [World.cell?, HC4.out]
    replace hW3 := hW3.symm
    clear hbb HB3 HC3 HK3 HCL
    go_wp2_with fail
    clear hW3
    refine (HRW.out other w1.heap.size W3 HB4.out HK4.out).mono ?_
    intro e w4 hr4
    have hb4 := hr4.1
    have HB5 := hid (HB4.out.trans (hb4.mono HB4.out.size))
    have HA5 := hid ((hb4.block _ (Array.getElem?_eq_some_iff.1 HA4.out).1).trans HA4.out)
    have HCL5 := hid (HCL4.out.belowM hb4)
    have HX4 := hid hr4.cases
    clear hr4 hb4 HB4 HC4 HK4 k0 k1 HRW HA4 HCL4
    by_cases hot : other < 0 ∨ 16384 < other
    · have h5 : ∃ z2, e = .returned (.tuple #[.agg #[.int .i64 0, .int .i64 0, .slice none 0 0], .iface 68 (.int .i64 z2)]) := by
        have hfo : fz6 (q : Int) size L.length other = 3 := by rw [fz6_lim HF0.out, if_pos hot]
        rcases HX4.out with ⟨z2, _, he, _⟩ | ⟨h0, _⟩
        · exact ⟨z2, he⟩
        · omega
      obtain ⟨z2, rfl⟩ := h5
      clear HX4
      by_cases hneg : other < 0
      · clear hot
        go_wp2_with fail
        go_ret
        exact ⟨rfl, HB5.out.alloc HB5.out.size _⟩
      · have hgt : 16384 < other := by omega
        clear hot
        go_wp2_with fail
        go_ret
        exact ⟨rfl, HB5.out.alloc HB5.out.size _⟩
    · have hneg : ¬ other < 0 := by omega
      have hgt : ¬ 16384 < other := by omega
      have hfo : fz6 (q : Int) size L.length other = 0 := by rw [fz6_lim HF0.out, if_neg hot]
      have hmo := mwalk_other other.toNat HXX.out
      rw [HKK.out] at hmo
      clear hot
      by_cases hlt : other < (k : Int)
      · rw [if_pos (by omega)] at hmo
        have h5 : e = .returned (.tuple #[.agg #[.int .i64 0, .int .i64 0, .slice none 0 0], .iface 68 (.int .i64 8)]) := by
          rcases HX4.out with ⟨z2, _, he, h6⟩ | ⟨_, l2, cs2, _, _, _, h6, _⟩
          · rcases h6 with ⟨h7, _⟩ | ⟨_, h7⟩
            · exact absurd hfo h7
            · rw [hmo] at h7
              injection h7 with h7
              rw [he, h7]
          · rw [hmo] at h6
            cases h6
        subst h5
        clear HX4 hfo hmo
        obtain ⟨W4, hW4⟩ : ∃ W4, W4 = w4.alloc (.cells #[.int .i64 0, .int .i64 0, .slice none 0 0] 31) := ⟨_, rfl⟩
        have hbb : Below w4.heap.size w4 W4 := by rw [hW4]; exact (Below.refl _ _).alloc (Nat.le_refl _) _
        have HB6 := hid (HB5.out.trans (hbb.mono HB5.out.size))
        have HA6 := hid ((hbb.block _ (Array.getElem?_eq_some_iff.1 HA5.out).1).trans HA5.out)
        have HER := hid (error_hit 8 8 W4 (HLD.out.below HB6.out))
        have i1 : w4.cell? ⟨w3.heap.size, 1, none⟩ = some (.int .i64 (k : Int)) := by simp [World.cell?, HA5.out]
        have hlt4 : w3.heap.size < w4.heap.size := (Array.getElem?_eq_some_iff.1 HA5.out).1
        clear hbb HB5 HA5
        go_wp2_with fail
        rw [← hW4]
        clear hW4 i1 hlt4
        refine HER.out.mono ?_
        rintro e w5 ⟨rfl, hb5⟩
        have HB7 := hid (HB6.out.trans (hb5.mono HB6.out.size))
        clear hb5 HER HB6
        go_wp2_with fail
        go_ret
        exact ⟨by simp, HB7.out⟩
      · rw [if_neg (by omega)] at hmo
        have h5 : ∃ a2 c2, e = .returned (.tuple #[.agg #[.int .i64 o, .int .i64 (k : Int), .slice a2 n' c2], .nilIface]) ∧ CelR W3.heap.size w4 (.slice a2 n' c2) l' := by
          rcases HX4.out with ⟨z2, _, he, h6⟩ | ⟨_, l2, cs2, a2, c2, l2', h6, _, he, hc2, ha2⟩
          · rcases h6 with ⟨h7, _⟩ | ⟨_, h7⟩
            · exact absurd hfo h7
            · rw [hmo] at h7
              cases h7
          · rw [hmo] at h6
            injection h6 with h6 h7
            subst h6 h7
            have hll := ha2.unique HAC.out
            subst hll
            rw [← HOU.out, HKK.out, ← HN'.out] at he
            rw [← HN'.out] at hc2
            exact ⟨a2, c2, he, hc2⟩
        obtain ⟨a2, c2, rfl, hc2⟩ := h5
        clear HX4 hfo hmo
        obtain ⟨W4, hW4⟩ : ∃ W4, W4 = w4.alloc (.cells #[.int .i64 o, .int .i64 (k : Int), .slice a2 n' c2] 31) := ⟨_, rfl⟩
        have hbb : Below w4.heap.size w4 W4 := by rw [hW4]; exact (Below.refl _ _).alloc (Nat.le_refl _) _
        have HD6 : Hid (W4.heap[w4.heap.size]? = some (.cells #[.int .i64 o, .int .i64 (k : Int), .slice a2 n' c2] 31 (0, 0))) := by unfold Hid; rw [hW4]; exact heap_alloc_new w4 _
        have HB6 := hid (HB5.out.trans (hbb.mono HB5.out.size))
        have HA6 := hid ((hbb.block _ (Array.getElem?_eq_some_iff.1 HA5.out).1).trans HA5.out)
        have HRS := hid (rans_same o (k : Int) _ _ _ _ l' W4 (HCL5.out.belowM hbb) (hc2.belowM hbb))
        have i1 : w4.cell? ⟨w3.heap.size, 1, none⟩ = some (.int .i64 (k : Int)) := by simp [World.cell?, HA5.out]
        have i2 : W4.cell? ⟨w3.heap.size, 0, none⟩ = some (.int .i64 o) := by simp [World.cell?, HA6.out]
        have i3 : W4.cell? ⟨w3.heap.size, 1, none⟩ = some (.int .i64 (k : Int)) := by simp [World.cell?, HA6.out]
        have i4 : W4.cell? ⟨w3.heap.size, 2, none⟩ = some (.slice a n' c) := by simp [World.cell?, HA6.out]
        have i5 : W4.cell? ⟨w4.heap.size, 0, none⟩ = some (.int .i64 o) := by simp [World.cell?, HD6.out]
        have i6 : W4.cell? ⟨w4.heap.size, 1, none⟩ = some (.int .i64 (k : Int)) := by simp [World.cell?, HD6.out]
        have i7 : W4.cell? ⟨w4.heap.size, 2, none⟩ = some (.slice a2 n' c2) := by simp [World.cell?, HD6.out]
        clear hbb HB5 hc2 HCL5
        replace hW4 := hW4.symm
        go_wp2_with fail
        clear hW4 i1 i2 i3 i4 i5 i6 i7
        refine HRS.out.mono ?_
        rintro e w5 ⟨rfl, hb5⟩
        have HB7 := hid (HB6.out.trans (hb5.mono HB6.out.size))
        clear hb5 HRS HB6
        go_wp2_with fail
        go_ret
        exact ⟨rfl, HB7.out⟩

set_option maxRecDepth 100000 in
theorem mlonger_walk (p size limit other : Int) (aL : Option Addr) (cL : Nat) (L : List InsZ) (w : World) (hL : Laid w) (hp1 : -9223372036854775808 ≤ p) (hp2 : p ≤ 9223372036854775807) (hn : L.length ≤ 281474976710656) (hl : LstI w.heap.size w aL cL L) (hIB : InsB L) :
    Calls Tryd.prog 5 #[.int .i64 p, .agg #[.int .i64 size, .slice aL L.length cL], .int .i64 limit, .int .i64 other] w fun e w' => e = .returned (.bool true) ∧ Below w.heap.size w w' := by
  by_cases hok : okPrime p
  · obtain ⟨q, rfl⟩ := Int.eq_ofNat_of_zero_le (show 0 ≤ p by have := hok.1; omega)
    obtain ⟨h3, h4, hpr⟩ := hok
    rw [Int.toNat_natCast] at hpr
    exact mlonger_yes srtAs q size limit other aL cL L w hL (by omega) (by omega) hpr hn hl hIB
  · obtain ⟨W0, hW0⟩ : ∃ W0, W0 = w.alloc (.cells #[.int .i64 size, .slice aL L.length cL] 24) := ⟨_, rfl⟩
    have hb0 : Below w.heap.size w W0 := by rw [hW0]; exact (Below.refl _ _).alloc (Nat.le_refl _) _
    have HLV := hid (lives6_any srtAs W0)
    have HPN := hid (fun W => plain6_no p W hok hp1 hp2)
    have HB0 := hid hb0
    obtain ⟨nL, hnL⟩ : ∃ nL, nL = L.length := ⟨_, rfl⟩
    rw [← hnL] at hW0 ⊢
    clear hb0 hn hl hIB hL hnL hok hp1 hp2
    go_enter Tryd.func5, Tryd.ntmps5
    go_wp2_with fail
    rw [← hW0]
    refine HLV.out.mono ?_
    rintro e w1 ⟨rfl, hb1⟩
    have HB1 := hid (HB0.out.trans (hb1.mono HB0.out.size))
    clear hb1 HLV HB0 hW0
    go_wp2_with fail
    refine (HPN.out w1).mono ?_
    rintro e w2 ⟨rfl, rfl⟩
    go_wp2_with fail
    go_ret
    exact ⟨rfl, HB1.out⟩

end Go.Proofs.YthemehdcakimgaiDoor
