/- attestlaw6: told; what Walk gives, in two. MachineOnce: the walk. -/
import Derived.Test.YthemehdcakimgaiMahX
import Derived.Test.YthemehdcakimgaiBiAP
import Derived.Test.YthemehdcakimgaiBiAR
namespace Go.Proofs.Ythemehdcakimgai
open Go.RowKit Go.Maps

set_option maxRecDepth 100000 in
set_option maxHeartbeats 2000000 in
/-- what a run tells of a cell -/
theorem told6_any (o s x y : Int) (b1 : Nat) (v : Value) (l : List (Int × Int)) (w : World) (h : CelR b1 w v l) (hx : x ≠ 0) (hex : ∃ j, j < l.length ∧ (cat l j).1 = x) (hun : ∀ j, j < l.length → (cat l j).1 = x → (cat l j).2 = y) :
    Calls Try.prog 8 #[.agg #[.int .i64 o, .int .i64 s, v], .int .i64 x] w fun e w' => e = .returned (.int .i64 y) ∧ Below w.heap.size w w' := by
  obtain ⟨a1, d1, rfl⟩ := h.form
  have HAT := hid (fun j (hj : j < l.length) => h.at hj)
  have HEX := hid hex
  have HUN := hid hun
  obtain ⟨n, hn⟩ : ∃ n, n = l.length := ⟨_, rfl⟩
  have HN := hid hn
  have HLM : Hid (n ≤ maxLen) := by
    unfold Hid
    rcases h.2 with ⟨_, h0⟩ | ⟨g, cap, cur, _, _, _, hn', hm, _⟩
    · rw [hn, h0]; exact Nat.zero_le _
    · rw [hn]; omega
  rw [← hn] at HAT HEX HUN ⊢
  clear h hn hex hun
  obtain ⟨W0, hW0⟩ : ∃ W0, W0 = w.alloc (.cells #[.int .i64 o, .int .i64 s, .slice a1 n d1] 30) := ⟨_, rfl⟩
  have b1 : Below w.heap.size w W0 := by rw [hW0]; exact (Below.refl _ _).alloc (Nat.le_refl _) _
  have HB0 := hid b1
  have hr1 : W0.heap[w.heap.size]? = some (.cells #[.int .i64 o, .int .i64 s, .slice a1 n d1] 30 (0, 0)) := by rw [hW0]; exact heap_alloc_new w _
  have x2 : W0.cell? ⟨w.heap.size, 2, none⟩ = some (.slice a1 n d1) := by simp [World.cell?, hr1]
  have HX2 := hid x2
  have hx0 : (x == 0) = false := by simp [hx]
  clear b1 hr1 hx x2
  go_enter Try.func8, Try.ntmps8
  go_wp2_with fail
  rw [← hW0]
  clear hW0
  go_loopw [5] (fun u wr => ∃ (i m : Nat), i ≤ n ∧ u = .int .i64 (i : Int) ∧ Hid (wr = W0.drewN m) ∧ Hid (∀ j, j < i → (cat l j).1 ≠ x)) (fun u _ => n - (intOf u).toNat)
  case atStart => exact ⟨0, 0, Nat.zero_le _, rfl, rfl, fun j hj => absurd hj (Nat.not_lt_zero _)⟩
  case round =>
    obtain ⟨i, m, hi, rfl, HWr, HNO⟩ := hrel
    have x2 : wr.cell? ⟨w.heap.size, 2, none⟩ = some (.slice a1 n d1) := by rw [HWr.out]; exact HX2.out
    by_cases hlt : i < n
    · have hlt2 : (i : Int) < (n : Int) := by omega
      have hmx2 := HLM.out
      have his : IntKind.i64.wrap ((i : Int) + 1) = (i : Int) + 1 := by rw [IntKind.wrap_i64]; unfold maxLen at hmx2; omega
      obtain ⟨g, cap, e0, _, c0, c1⟩ := HAT.out i hlt
      injection e0 with e0 _ _
      subst e0
      have hbb : Below w.heap.size w wr := by rw [HWr.out]; exact HB0.out.trans ((belM W0 m).mono HB0.out.size)
      have p0 := (hbb.cell (p := ⟨g, i * 2, none⟩) (World.block_lt_of_cell? _ _ c0)).trans c0
      have p1 := (hbb.cell (p := ⟨g, i * 2 + 1, none⟩) (World.block_lt_of_cell? _ _ c1)).trans c1
      have HBW := hid hbb
      obtain ⟨z, hz⟩ : ∃ z, z = (cat l i).1 := ⟨_, rfl⟩
      obtain ⟨z1, hz1⟩ : ∃ z1, z1 = (cat l i).2 := ⟨_, rfl⟩
      rw [← hz] at p0
      rw [← hz1] at p1
      have HZ := hid hz
      have HZ1 := hid hz1
      clear hz hz1 c0 c1 hbb hmx2
      by_cases hxy : z = x
      · have hxb : (z == x) = true := by simp [hxy]
        have HY : Hid (z1 = y) := by unfold Hid; rw [HZ1.out]; exact HUN.out i hlt (by rw [← HZ.out]; exact hxy)
        clear hxy
        go_wp2_with fail
        go_ret
        rw [HY.out]
        exact ⟨rfl, HBW.out⟩
      · have hxb : (z == x) = false := by simp [hxy]
        have HI2 : Hid (∀ j, j < i + 1 → (cat l j).1 ≠ x) := fun j hj => by
          by_cases e : j = i
          · rw [e, ← HZ.out]; exact hxy
          · exact HNO.out j (by omega)
        clear hxy
        go_wp2_with fail
        go_roundw
        case rel => exact ⟨i + 1, m, by omega, by go_num, HWr, HI2⟩
        case measure => simp [intOf]; omega
    · exact absurd HEX.out (fun ⟨j, h1, h2⟩ => HNO.out j (by omega) h2)

set_option maxRecDepth 100000 in
theorem told6_zero (o s : Int) (v : Value) (w : World) :
    Calls Try.prog 8 #[.agg #[.int .i64 o, .int .i64 s, v], .int .i64 0] w fun e w' => e = .returned (.int .i64 0) ∧ Below w.heap.size w w' := by
  have HB0 : Hid (Below w.heap.size w (w.alloc (.cells #[.int .i64 o, .int .i64 s, v] 30))) := (Below.refl _ _).alloc (Nat.le_refl _) _
  go_enter Try.func8, Try.ntmps8
  go_wp2_with fail
  go_ret
  exact ⟨rfl, HB0.out⟩
/-- what Walk gives, in two -/
theorem WlR.cases {p : Nat} {size : Int} {L : List InsZ} {limit : Int} {w w' : World} {e : Ending} (h : WlR p size L limit w e w') :
    (∃ z, z ≠ 0 ∧ e = .returned (.tuple #[.slice none 0 0, .iface 54 (.int .i64 z)]) ∧ (fz6 (p : Int) size L.length limit ≠ 0 ∨ (fz6 (p : Int) size L.length limit = 0 ∧ mwalk p size L limit.toNat = .bad z))) ∨
    (fz6 (p : Int) size L.length limit = 0 ∧ ∃ l cs a c, mwalk p size L limit.toNat = .good l cs ∧ e = .returned (.tuple #[.slice a l.length c, .nilIface]) ∧ StR w.heap.size w' (.slice a l.length c) l) := by
  obtain ⟨_, h2⟩ := h
  by_cases hz : fz6 (p : Int) size L.length limit ≠ 0
  · rw [if_pos hz, errV_nz hz] at h2
    exact .inl ⟨_, hz, h2, .inl hz⟩
  · rw [if_neg hz] at h2
    have hz0 : fz6 (p : Int) size L.length limit = 0 := Decidable.byContradiction hz
    cases hX : mwalk p size L limit.toNat with
    | bad z =>
      rw [hX] at h2
      have hnz := mgo_bad _ _ _ _ _ _ _ hX
      have h2' : e = _ := h2
      rw [errV_nz hnz] at h2'
      exact .inl ⟨z, hnz, h2', .inr ⟨hz0, rfl⟩⟩
    | good l cs =>
      rw [hX] at h2
      obtain ⟨v, h5, h6⟩ := h2
      obtain ⟨a, c, rfl⟩ := h6.form
      exact .inr ⟨hz0, l, cs, a, c, rfl, h5, h6⟩

end Go.Proofs.Ythemehdcakimgai

namespace Go.Proofs.Ythemehdcakimgai
open Go.RowKit Go.Maps

/-- a step's numbers among those of all steps -/
theorem stvs_step : ∀ (l : List (List Int)), (∀ x, x ∈ l → x.length = 10) → ∀ (i k : Nat), i < l.length → k < 10 → (stvs l)[i * 10 + k]? = some (.int .i64 ((l.getD i []).getD k 0))
  | [], _, i, _, h, _ => absurd h (Nat.not_lt_zero _)
  | x :: r, hx, 0, k, _, hk => by
    have hl := hx x (List.mem_cons_self ..)
    have hs : stvs (x :: r) = x.map (Value.int .i64) ++ stvs r := by simp [stvs]
    rw [hs, List.getElem?_append_left (by simp; omega)]
    have hk' : k < x.length := by omega
    simp [hk']
  | x :: r, hx, i + 1, k, h, hk => by
    have hl := hx x (List.mem_cons_self ..)
    have hs : stvs (x :: r) = x.map (Value.int .i64) ++ stvs r := by simp [stvs]
    have ih := stvs_step r (fun y hy => hx y (List.mem_cons_of_mem _ hy)) i k (by simpa using h) hk
    rw [hs, List.getElem?_append_right (by simp; omega)]
    have e : (i + 1) * 10 + k - (x.map (Value.int .i64)).length = i * 10 + k := by simp; omega
    rw [e, ih]
    rfl
/-- what Run tells of a cell that a step shows -/
theorem once_told {p : Nat} {cs l' : List (Int × Int)} (hz : Zer cs) (hb : ∀ u, 0 ≤ finz cs u → 0 ≤ u ∧ u < (p : Int)) (hp : p ≤ 2147483647) (ha : AscC cs l') {x y : Int} (h : 0 ≤ finz cs x ∧ cvl cs x = y) : (x = 0 ∧ y = 0) ∨ (x ≠ 0 ∧ (∃ j, j < l'.length ∧ (cat l' j).1 = x) ∧ ∀ j, j < l'.length → (cat l' j).1 = x → (cat l' j).2 = y) := by
  by_cases h0 : x = 0
  · subst h0
    exact .inl ⟨rfl, h.2.symm.trans hz.2⟩
  · have hbx := hb x h.1
    have hm := (ha.2 x y).2 ⟨h0, ⟨by omega, by omega⟩, h.1, h.2⟩
    refine .inr ⟨h0, ?_, fun j hj hj2 => ?_⟩
    · obtain ⟨j, hj, he⟩ := List.getElem_of_mem hm
      exact ⟨j, hj, by simp [cat, hj, he]⟩
    · have hc : cat l' j = l'[j] := by simp [cat, hj]
      have hmj : ((cat l' j).1, (cat l' j).2) ∈ l' := by rw [hc]; exact List.getElem_mem hj
      have := (ha.2 _ _).1 hmj
      rw [hj2, h.2] at this
      exact this.2.2.2.symm

set_option maxRecDepth 100000 in
set_option maxHeartbeats 4000000 in
/-- where there is a field -/
theorem monce_yes (SO : SrtAs) (q : Nat) (size limit : Int) (aL : Option Addr) (cL : Nat) (L : List InsZ) (w : World) (h3 : 3 ≤ q) (h4 : q ≤ 2147483647) (hpr : Num.Prime q) (hn : L.length ≤ 281474976710656) (hl : LstI w.heap.size w aL cL L) (hIB : InsB L) :
    Calls Try.prog 3 #[.int .i64 q, .agg #[.int .i64 size, .slice aL L.length cL], .int .i64 limit] w fun e w' => e = .returned (.bool true) ∧ Below w.heap.size w w' := by
  obtain ⟨W0, hW0⟩ : ∃ W0, W0 = w.alloc (.cells #[.int .i64 size, .slice aL L.length cL] 24) := ⟨_, rfl⟩
  have hb0 : Below w.heap.size w W0 := by rw [hW0]; exact (Below.refl _ _).alloc (Nat.le_refl _) _
  have HC0 : Hid (W0.heap[w.heap.size]? = some (.cells #[.int .i64 size, .slice aL L.length cL] 24 (0, 0))) := by unfold Hid; rw [hW0]; exact heap_alloc_new w _
  have HB0 := hid hb0
  have HLV := hid (lives6_any SO W0)
  have HPR := hid hpr
  have HRW := hid (fun (lim : Int) (b : Nat) (W : World) (hb : Below w.heap.size w W) (hc : W.cell? ⟨b, 0, none⟩ = some (.int .i64 q)) => prun_any SO q b size lim aL cL L W h3 h4 hpr hc hn ((hl.below hb).mono hb.size) hIB)
  have HWW := hid (fun (lim : Int) (b : Nat) (W : World) (hb : Below w.heap.size w W) (hc : W.cell? ⟨b, 0, none⟩ = some (.int .i64 q)) => pwalk_any q b size lim aL cL L W h3 h4 hpr hc hn ((hl.below hb).mono hb.size) hIB)
  obtain ⟨nL, hnL⟩ : ∃ nL, nL = L.length := ⟨_, rfl⟩
  have HNL := hid hnL
  rw [← hnL] at HC0 hW0 HRW HWW ⊢
  clear hb0 hl hIB hpr hnL hn SO
  go_enter Try.func3, Try.ntmps3
  go_wp2_with fail
  rw [← hW0]
  refine HLV.out.mono ?_
  rintro e w1 ⟨rfl, hb1⟩
  have HB1 := hid (HB0.out.trans (hb1.mono HB0.out.size))
  have HC1 := hid ((hb1.block _ (Array.getElem?_eq_some_iff.1 HC0.out).1).trans HC0.out)
  have HPL := hid (plain6_yes q w1 h3 h4 HPR.out)
  clear hb1 HB0 HC0 HLV hW0
  go_wp2_with fail
  refine HPL.out.mono ?_
  rintro e w2 ⟨rfl, hc2, hb2⟩
  have HB2 := hid (HB1.out.trans (hb2.mono HB1.out.size))
  have HC2 := hid ((hb2.block _ (Array.getElem?_eq_some_iff.1 HC1.out).1).trans HC1.out)
  have HK2 := hid hc2
  have k0 : w2.cell? ⟨w.heap.size, 0, none⟩ = some (.int .i64 size) := by simp [World.cell?, HC2.out]
  have k1 : w2.cell? ⟨w.heap.size, 1, none⟩ = some (.slice aL nL cL) := by simp [World.cell?, HC2.out]
  clear hb2 HB1 HC1 HPL hc2
  go_wp2_with fail
  refine (HRW.out limit w1.heap.size w2 HB2.out HK2.out).mono ?_
  intro e w3 hr3
  have hb3 := hr3.1
  have HB3 := hid (HB2.out.trans (hb3.mono HB2.out.size))
  have HC3 := hid ((hb3.block _ (Array.getElem?_eq_some_iff.1 HC2.out).1).trans HC2.out)
  have HK3 := hid ((hb3.cell (p := ⟨w1.heap.size, 0, none⟩) (World.block_lt_of_cell? _ _ HK2.out)).trans HK2.out)
  have HX3 := hid hr3.cases
  have hlt3 : w.heap.size < w3.heap.size := (Array.getElem?_eq_some_iff.1 HC3.out).1
  have j0 : w3.cell? ⟨w.heap.size, 0, none⟩ = some (.int .i64 size) := by simp [World.cell?, HC3.out]
  have j1 : w3.cell? ⟨w.heap.size, 1, none⟩ = some (.slice aL nL cL) := by simp [World.cell?, HC3.out]
  clear hr3 hb3 k0 k1 HB2 HC2 HK2 HRW
  rcases HX3.out with ⟨z, hz, rfl, hwhy⟩ | ⟨hf0, l, cs, a, c, l', hX, hl0, rfl, hcl, hasc⟩
  · have HWY := hid hwhy
    clear HX3 hwhy hz
    obtain ⟨W3, hW3⟩ : ∃ W3, W3 = w3.alloc (.cells #[.int .i64 0, .int .i64 0, .slice none 0 0] 30) := ⟨_, rfl⟩
    have hbb : Below w3.heap.size w3 W3 := by rw [hW3]; exact (Below.refl _ _).alloc (Nat.le_refl _) _
    have HB4 := hid (HB3.out.trans (hbb.mono HB3.out.size))
    have HK4 := hid ((hbb.cell (p := ⟨w1.heap.size, 0, none⟩) (World.block_lt_of_cell? _ _ HK3.out)).trans HK3.out)
    clear hbb HB3 HC3 HK3
    go_wp2_with fail
    rw [← hW3]
    clear hW3 j0 j1 hlt3
    refine (HWW.out limit w1.heap.size W3 HB4.out HK4.out).mono ?_
    intro e w4 hr4
    have HB5 := hid (HB4.out.trans (hr4.1.mono HB4.out.size))
    have h5 : ∃ z2, e = .returned (.tuple #[.slice none 0 0, .iface 54 (.int .i64 z2)]) := by
      rcases hr4.cases with ⟨z2, _, he, _⟩ | ⟨h0, l, cs, _, _, hX, _⟩
      · exact ⟨z2, he⟩
      · rcases HWY.out with ⟨h6, _⟩ | ⟨_, h6⟩
        · exact absurd h0 h6
        · rw [hX] at h6
          cases h6
    obtain ⟨z2, rfl⟩ := h5
    clear hr4 HB4 HK4 HWW HWY
    go_wp2_with fail
    go_ret
    exact ⟨rfl, HB5.out⟩
  · have HF0 := hid hf0
    have HLIM : Hid (((l.length : Nat) : Int) ≤ limit + 1 ∧ 0 ≤ limit ∧ limit ≤ 16384) := by
      have hz0 := hf0
      have h1 := (mgo_len _ _ _ _ _ _ _ _ hX).2
      unfold fz6 at hz0
      split at hz0
      · omega
      · split at hz0
        · omega
        · simp at h1
          exact ⟨by omega, by omega, by omega⟩
    obtain ⟨hO1, hO2, hO3⟩ := mwalk_once h3 hX
    have HTO : Hid (∀ i j, i < l.length → j < 3 → ∃ x y, (stvs l)[i * 10 + (4 + j)]? = some (.int .i64 x) ∧ (stvs l)[i * 10 + (7 + j)]? = some (.int .i64 y) ∧ ((x = 0 ∧ y = 0) ∨ (x ≠ 0 ∧ (∃ j, j < l'.length ∧ (cat l' j).1 = x) ∧ ∀ j, j < l'.length → (cat l' j).1 = x → (cat l' j).2 = y))) := fun i j hi hj => by
      have hm : l.getD i [] ∈ l := by simp [hi]
      exact ⟨_, _, stvs_step l (fun x hx => (hO3 x hx).2) i (4 + j) hi (by omega), stvs_step l (fun x hx => (hO3 x hx).2) i (7 + j) hi (by omega), once_told hO1 hO2 h4 hasc ((hO3 _ hm).1 j hj)⟩
    have HXX := hid hX
    have HCL := hid hcl
    have HL0 := hid hl0
    obtain ⟨o, ho⟩ := stvs_int l ((l.length - 1) * 10 + 7) (by
      have := stvs_step l (fun x hx => (hO3 x hx).2) (l.length - 1) 7 (by omega) (by omega)
      exact (List.getElem?_eq_some_iff.1 this).1)
    have hou : outv l = o := by unfold outv; rw [ho]
    have HO := hid ho
    rw [hou]
    obtain ⟨k, hk⟩ : ∃ k, l.length = k + 1 := ⟨l.length - 1, by omega⟩
    have hk' : l.length - 1 = k := by omega
    obtain ⟨n', hn'⟩ : ∃ n', n' = l'.length := ⟨_, rfl⟩
    have HKK := hid hk
    have HN' := hid hn'
    rw [hk', ← hn']
    rw [← hn'] at HCL
    rw [hk] at HLIM
    rw [hk'] at HO
    clear HX3 hf0 hX hcl hasc ho hou hk hk' hn' hl0 hO1 hO2 hO3
    obtain ⟨W3, hW3⟩ : ∃ W3, W3 = w3.alloc (.cells #[.int .i64 o, .int .i64 (k : Int), .slice a n' c] 30) := ⟨_, rfl⟩
    have hbb : Below w3.heap.size w3 W3 := by rw [hW3]; exact (Below.refl _ _).alloc (Nat.le_refl _) _
    have HA4 : Hid (W3.heap[w3.heap.size]? = some (.cells #[.int .i64 o, .int .i64 (k : Int), .slice a n' c] 30 (0, 0))) := by unfold Hid; rw [hW3]; exact heap_alloc_new w3 _
    have HB4 := hid (HB3.out.trans (hbb.mono HB3.out.size))
    have HCL4 := hid (HCL.out.belowM hbb)
    have HK4 := hid ((hbb.cell (p := ⟨w1.heap.size, 0, none⟩) (World.block_lt_of_cell? _ _ HK3.out)).trans HK3.out)
    clear hbb HB3 HC3 HK3 HCL
    go_wp2_with fail
    rw [← hW3]
    clear hW3 j0 j1 hlt3
    refine (HWW.out limit w1.heap.size W3 HB4.out HK4.out).mono ?_
    intro e w4 hr4
    have hb4 := hr4.1
    have HB5 := hid (HB4.out.trans (hb4.mono HB4.out.size))
    have HA5 := hid ((hb4.block _ (Array.getElem?_eq_some_iff.1 HA4.out).1).trans HA4.out)
    have HCL5 := hid (HCL4.out.belowM hb4)
    have h5 : ∃ a2 c2, e = .returned (.tuple #[.slice a2 (k + 1) c2, .nilIface]) ∧ StR W3.heap.size w4 (.slice a2 (k + 1) c2) l := by
      rcases hr4.cases with ⟨z2, _, he, h6⟩ | ⟨_, l2, cs2, a2, c2, h6, he, hs2⟩
      · rcases h6 with h7 | ⟨_, h7⟩
        · exact absurd HF0.out h7
        · rw [HXX.out] at h7
          cases h7
      · rw [HXX.out] at h6
        injection h6 with h6 h7
        subst h6
        rw [HKK.out] at he hs2
        exact ⟨a2, c2, he, hs2⟩
    obtain ⟨a2, c2, rfl, hs2⟩ := h5
    have hs2' := hs2
    rw [← HKK.out] at hs2'
    obtain ⟨g, cap, e1, _, hce⟩ := hs2'.cells HL0.out
    injection e1 with e1 _ e3
    subst e1 e3
    have ko := hce _ _ HO.out
    have HCE := hid hce
    clear hr4 hb4 HB4 HK4 HWW HA4 HCL4 hs2 hs2' hce HXX HF0
    have r0 : w4.cell? ⟨w3.heap.size, 0, none⟩ = some (.int .i64 o) := by simp [World.cell?, HA5.out]
    have r1 : w4.cell? ⟨w3.heap.size, 1, none⟩ = some (.int .i64 (k : Int)) := by simp [World.cell?, HA5.out]
    have r2 : w4.cell? ⟨w3.heap.size, 2, none⟩ = some (.slice a n' c) := by simp [World.cell?, HA5.out]
    obtain ⟨n, hn⟩ : ∃ n, n = k + 1 := ⟨_, rfl⟩
    obtain ⟨lm, hlm'⟩ : ∃ lm, lm = limit + 1 := ⟨_, rfl⟩
    have hlm := HLIM.out
    have ha1 : IntKind.i64.wrap ((k : Int) + 1) = (n : Int) := by rw [IntKind.wrap_i64]; omega
    have ha2 : IntKind.i64.wrap (limit + 1) = lm := by rw [IntKind.wrap_i64]; omega
    have ha3 : IntKind.i64.wrap ((n : Int) - 1) = (k : Int) := by rw [IntKind.wrap_i64]; omega
    have hb1 : ((n : Int) != (n : Int)) = false := by simp
    have hb2 : ¬ (lm < (n : Int)) := by omega
    have hb3 : (o != o) = false := by simp
    have hkl : (k : Int) < (n : Int) := by omega
    have HNK := hid hn
    rw [← hn]
    clear hlm hn hlm'
    go_wp2_with fail
    go_quiet (fail)
    go_wp2_with fail
    clear r0 r1 r2 ko ha1 ha2 ha3 hb1 hb2 hb3 hkl
    have HQ : Hid (Below w4.heap.size w4 (w4.drewN nq)) := belM w4 nq
    go_loopw [13] (fun iv wr => ∃ i : Nat, i ≤ n ∧ iv = .int .i64 (i : Int) ∧ Hid (Below w4.heap.size w4 wr)) (fun iv _ => n - (intOf iv).toNat)
    case atStart => exact ⟨0, Nat.zero_le _, rfl, HQ.out⟩
    case round =>
      obtain ⟨i, hi, rfl, HWr⟩ := hrel
      by_cases hlt : i < n
      · have hlt2 : (i : Int) < (n : Int) := by omega
        have his : IntKind.i64.wrap ((i : Int) + 1) = (i : Int) + 1 := by have := HLIM.out; have := HNK.out; rw [IntKind.wrap_i64]; omega
        go_wp2_with fail
        go_loopw [14] (fun jv wr => ∃ j : Nat, j ≤ 3 ∧ jv = .int .i64 (j : Int) ∧ Hid (Below w4.heap.size w4 wr)) (fun jv _ => 3 - (intOf jv).toNat)
        case atStart => exact ⟨0, Nat.zero_le _, rfl, HWr.out⟩
        case round =>
          obtain ⟨j, hj, rfl, HWj⟩ := hrel
          by_cases hjt : j < 3
          · have hjt2 : (j : Int) < 3 := by omega
            have hjs : IntKind.i64.wrap ((j : Int) + 1) = (j : Int) + 1 := by rw [IntKind.wrap_i64]; omega
            obtain ⟨x, y, hx, hy, hxy⟩ := HTO.out i j (by have := HNK.out; have := HKK.out; omega) hjt
            have px := (HWj.out.cell (p := ⟨g, i * 10 + (4 + j), none⟩) (World.block_lt_of_cell? _ _ (HCE.out _ _ hx))).trans (HCE.out _ _ hx)
            have py := (HWj.out.cell (p := ⟨g, i * 10 + (7 + j), none⟩) (World.block_lt_of_cell? _ _ (HCE.out _ _ hy))).trans (HCE.out _ _ hy)
            rw [← Nat.add_assoc] at px py
            have HAj := hid ((HWj.out.block _ (Array.getElem?_eq_some_iff.1 HA5.out).1).trans HA5.out)
            have HTL : Hid (∀ W, Below w4.heap.size w4 W → Calls Try.prog 8 #[.agg #[.int .i64 o, .int .i64 (k : Int), .slice a n' c], .int .i64 x] W fun e w' => e = .returned (.int .i64 y) ∧ Below W.heap.size W w') := fun W hb => by
              rcases hxy with ⟨rfl, rfl⟩ | ⟨g1, g2, g3⟩
              · exact told6_zero o (k : Int) _ W
              · exact told6_any o (k : Int) x y _ _ l' W (HCL5.out.belowM hb) g1 g2 g3
            have s0 : wr.cell? ⟨w3.heap.size, 0, none⟩ = some (.int .i64 o) := by simp [World.cell?, HAj.out]
            have s1 : wr.cell? ⟨w3.heap.size, 1, none⟩ = some (.int .i64 (k : Int)) := by simp [World.cell?, HAj.out]
            have s2 : wr.cell? ⟨w3.heap.size, 2, none⟩ = some (.slice a n' c) := by simp [World.cell?, HAj.out]
            clear hx hy hxy
            go_wp2_with fail
            refine wp_region_held_drew (S := (fun W => W.cell? ⟨w3.heap.size, 0, none⟩ = some (.int .i64 o) ∧ W.cell? ⟨w3.heap.size, 1, none⟩ = some (.int .i64 (k : Int)) ∧ W.cell? ⟨w3.heap.size, 2, none⟩ = some (.slice a n' c) ∧ W.cell? ⟨g, i * 10 + 4 + j, none⟩ = some (.int .i64 x))) (by kernel_rfl) ⟨s0, s1, s2, px⟩ (fun hHeld => ?_)
            refine wpAnyH_takeW (i := 0) (v := .agg #[.int .i64 o, .int .i64 (k : Int), .slice a n' c]) rfl (by kernel_rfl) (by kernel_rfl) (by kernel_rfl) (fun _ _ _ h => h) (by rfl) (fun W hC => by (obtain ⟨q0, q1, q2, q3⟩ := hC; go_simp)) hHeld ?_
            simp only [Act.put, List.setIfInBounds_toArray, List.set_cons_zero, List.set_cons_succ]
            refine wpAnyH_takeW (i := 1) (v := .slice (some ⟨g, 0, none⟩) n c2) rfl (by kernel_rfl) (by kernel_rfl) (by kernel_rfl) (fun _ _ _ h => h) (by rfl) (fun W hC => by go_simp) hHeld ?_
            simp only [Act.put, List.setIfInBounds_toArray, List.set_cons_zero, List.set_cons_succ]
            refine wpAnyH_takeW (i := 2) (v := .int .i64 (i : Int)) rfl (by kernel_rfl) (by kernel_rfl) (by kernel_rfl) (fun _ _ _ h => h) (by rfl) (fun W hC => by go_simp) hHeld ?_
            simp only [Act.put, List.setIfInBounds_toArray, List.set_cons_zero, List.set_cons_succ]
            refine wpAnyH_takeW (i := 3) (v := .int .i64 (j : Int)) rfl (by kernel_rfl) (by kernel_rfl) (by kernel_rfl) (fun _ _ _ h => h) (by rfl) (fun W hC => by go_simp) hHeld ?_
            simp only [Act.put, List.setIfInBounds_toArray, List.set_cons_zero, List.set_cons_succ]
            refine wpAnyH_takeW (i := 4) (v := .pointer (some ⟨g, i * 10, none⟩)) rfl (by kernel_rfl) (by kernel_rfl) (by kernel_rfl) (fun _ _ _ h => h) (by rfl) (fun W hC => by go_simp) hHeld ?_
            simp only [Act.put, List.setIfInBounds_toArray, List.set_cons_zero, List.set_cons_succ]
            refine wpAnyH_takeW (i := 5) (v := .pointer (some ⟨g, i * 10 + 4, none⟩)) rfl (by kernel_rfl) (by kernel_rfl) (by kernel_rfl) (fun _ _ _ h => h) (by rfl) (fun W hC => by go_simp) hHeld ?_
            simp only [Act.put, List.setIfInBounds_toArray, List.set_cons_zero, List.set_cons_succ]
            refine wpAnyH_takeW (i := 6) (v := .pointer (some ⟨g, i * 10 + 4 + j, none⟩)) rfl (by kernel_rfl) (by kernel_rfl) (by kernel_rfl) (fun _ _ _ h => h) (by rfl) (fun W hC => by go_simp) hHeld ?_
            simp only [Act.put, List.setIfInBounds_toArray, List.set_cons_zero, List.set_cons_succ]
            refine wpAnyH_takeW (i := 7) (v := .int .i64 x) rfl (by kernel_rfl) (by kernel_rfl) (by kernel_rfl) (fun _ _ _ h => h) (by rfl) (fun W hC => by (obtain ⟨q0, q1, q2, q3⟩ := hC; go_simp)) hHeld ?_
            simp only [Act.put, List.setIfInBounds_toArray, List.set_cons_zero, List.set_cons_succ]
            refine wpAnyH_ready (rs := [8]) (by kernel_rfl) (by simp) ?_
            refine AllReadyH.consW rfl (fun K hK => ?_) AllReadyH.nil
            go_simp
            refine (HTL.out wr.drew HWj.out.drew).mono ?_
            rintro e w5 ⟨rfl, hb5⟩
            have hb15 : Below wr.heap.size wr w5 := ⟨hb5.os, hb5.tape, hb5.output, hb5.size, hb5.block⟩
            have t0 := (hb15.cell (p := ⟨w3.heap.size, 0, none⟩) (World.block_lt_of_cell? _ _ s0)).trans s0
            have t1 := (hb15.cell (p := ⟨w3.heap.size, 1, none⟩) (World.block_lt_of_cell? _ _ s1)).trans s1
            have t2 := (hb15.cell (p := ⟨w3.heap.size, 2, none⟩) (World.block_lt_of_cell? _ _ s2)).trans s2
            have t3 := (hb15.cell (p := ⟨g, i * 10 + 4 + j, none⟩) (World.block_lt_of_cell? _ _ px)).trans px
            have py5 := (hb15.cell (p := ⟨g, i * 10 + 7 + j, none⟩) (World.block_lt_of_cell? _ _ py)).trans py
            have HN5 := hid (HWj.out.trans (hb15.mono HWj.out.size))
            refine hK.out _ _ ⟨t0, t1, t2, t3⟩ (fun hHeld => ?_)
            clear hK K hb5 hb15 HTL s0 s1 s2 px py HAj
            refine wpAnyH_takeW (i := 9) (v := .int .i64 y) rfl (by kernel_rfl) (by kernel_rfl) (by kernel_rfl) (fun _ _ _ h => h) (by rfl) (fun W hC => by go_simp) hHeld ?_
            simp only [Act.put, List.setIfInBounds_toArray, List.set_cons_zero, List.set_cons_succ]
            refine wpAnyH_done (by kernel_rfl) ?_ _
            clear hHeld t0 t1 t2 t3
            have hyy : (y != y) = false := by simp
            go_wp2_with fail
            go_roundw
            case rel => exact ⟨j + 1, by omega, by go_num, HN5.out⟩
            case measure => simp [intOf]; omega
          · obtain rfl : j = 3 := by omega
            go_wp2_with fail
            go_roundw
            case rel => exact ⟨i + 1, by omega, by go_num, HWj.out⟩
            case measure => simp [intOf]; omega
      · obtain rfl : i = n := by omega
        have hlt2 : ¬ (i : Int) < (i : Int) := by omega
        go_wp2_with fail
        go_ret
        exact ⟨rfl, HB5.out.trans (HWr.out.mono HB5.out.size)⟩

set_option maxRecDepth 100000 in
theorem monce_walk (p size limit : Int) (aL : Option Addr) (cL : Nat) (L : List InsZ) (w : World) (hp1 : -9223372036854775808 ≤ p) (hp2 : p ≤ 9223372036854775807) (hn : L.length ≤ 281474976710656) (hl : LstI w.heap.size w aL cL L) (hIB : InsB L) :
    Calls Try.prog 3 #[.int .i64 p, .agg #[.int .i64 size, .slice aL L.length cL], .int .i64 limit] w fun e w' => e = .returned (.bool true) ∧ Below w.heap.size w w' := by
  by_cases hok : okPrime p
  · obtain ⟨q, rfl⟩ := Int.eq_ofNat_of_zero_le (show 0 ≤ p by have := hok.1; omega)
    obtain ⟨h3, h4, hpr⟩ := hok
    rw [Int.toNat_natCast] at hpr
    exact monce_yes srtAs q size limit aL cL L w (by omega) (by omega) hpr hn hl hIB
  · obtain ⟨W0, hW0⟩ : ∃ W0, W0 = w.alloc (.cells #[.int .i64 size, .slice aL L.length cL] 24) := ⟨_, rfl⟩
    have hb0 : Below w.heap.size w W0 := by rw [hW0]; exact (Below.refl _ _).alloc (Nat.le_refl _) _
    have HLV := hid (lives6_any srtAs W0)
    have HPN := hid (fun W => plain6_no p W hok hp1 hp2)
    have HB0 := hid hb0
    obtain ⟨nL, hnL⟩ : ∃ nL, nL = L.length := ⟨_, rfl⟩
    rw [← hnL] at hW0 ⊢
    clear hb0 hn hl hIB hnL hok hp1 hp2
    go_enter Try.func3, Try.ntmps3
    go_wp2_with fail
    rw [← hW0]
    refine HLV.out.mono ?_
    rintro e w1 ⟨rfl, hb1⟩
    have HB1 := hid (HB0.out.trans (hb1.mono HB0.out.size))
    clear hb1 HLV HB0 hW0
    go_wp2_with fail
    refine (HPN.out w1).mono ?_
    rintro e w2 ⟨rfl, rfl⟩
    go_wp2_with fail
    go_ret
    exact ⟨rfl, HB1.out⟩

end Go.Proofs.Ythemehdcakimgai
