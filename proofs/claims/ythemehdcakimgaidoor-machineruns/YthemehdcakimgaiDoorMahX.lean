/- attestlaw6: plain, lives. -/
import Derived.Test.YthemehdcakimgaiDoorBiAP
namespace Go.Proofs.YthemehdcakimgaiDoor
open Go.RowKit Go.Maps

set_option maxRecDepth 100000 in
theorem plain6_yes (q : Nat) (w : World) (h3 : 3 ≤ q) (h4 : q ≤ 2147483647) (hpr : Num.Prime q) :
    Calls Tryd.prog 17 #[.int .i64 q] w fun e w' => e = .returned (.pointer (some ⟨w.heap.size, 0, none⟩)) ∧ w'.cell? ⟨w.heap.size, 0, none⟩ = some (.int .i64 q) ∧ Below w.heap.size w w' := by
  have HF := hid (new_yes q w h3 h4 hpr)
  clear hpr
  go_enter Tryd.func17, Tryd.ntmps17
  go_wp2_with fail
  refine HF.out.mono ?_
  rintro e w1 ⟨rfl, hc1, hb1, hlt1⟩
  have HE : Hid (w1.cell? ⟨w.heap.size, 0, none⟩ = some (.int .i64 q) ∧ Below w.heap.size w w1) := ⟨hc1, hb1⟩
  clear hc1 hb1 HF
  go_wp2_with fail
  go_ret
  exact ⟨rfl, HE.out⟩
set_option maxRecDepth 100000 in
theorem plain6_no (p : Int) (w : World) (hno : ¬ okPrime p) (hp1 : -9223372036854775808 ≤ p) (hp2 : p ≤ 9223372036854775807) :
    Calls Tryd.prog 17 #[.int .i64 p] w fun e w' => e = .returned (.pointer none) ∧ w' = w := by
  have HF := hid (new_no p w hno hp1 hp2)
  clear hno hp1 hp2
  go_enter Tryd.func17, Tryd.ntmps17
  go_wp2_with fail
  refine HF.out.mono ?_
  rintro e w1 ⟨rfl, rfl⟩
  go_wp2_with fail
  go_ret
  exact ⟨rfl, rfl⟩

theorem prime97M : Num.Prime 97 := by
  refine ⟨by decide, fun d hd => ?_⟩
  have hle : d ≤ 97 := Nat.le_of_dvd (by decide) hd
  have key : ∀ e, e ≤ 97 → 97 % e = 0 → e = 1 ∨ e = 97 := by decide
  exact key d hle (Nat.mod_eq_zero_of_dvd hd)
/-- chapter 10's example -/
def exL : List InsZ := [⟨5, 0, 5, 0⟩, ⟨5, 1, -1, 0⟩, ⟨3, 0, 1, 2⟩, ⟨0, 2, 0, 0⟩]
def exC : List (Int × Int) := [(0, 0), (1, 5), (2, 96), (3, 92)]
theorem ex_walk : ∃ l, mwalk 97 3 exL 3 = .good l exC ∧ l.length = 4 ∧ outv l = 92 := ⟨_, rfl, rfl, rfl⟩
theorem ex_cells {l : List (Int × Int)} (h : AscC exC l) : l.length = 3 := by
  have hx : AscC exC [(1, 5), (2, 96), (3, 92)] := by
    refine ⟨by decide, fun x y => ?_⟩
    by_cases h0 : x = 0
    · subst h0; simp
    · by_cases h1 : x = 1
      · subst h1
        simp [cvl, finz, exC, cat, I64, List.findIdx?_cons]
        omega
      · by_cases h2 : x = 2
        · subst h2
          simp [cvl, finz, exC, cat, I64, List.findIdx?_cons]
          omega
        · by_cases h3 : x = 3
          · subst h3
            simp [cvl, finz, exC, cat, I64, List.findIdx?_cons]
            omega
          · have hm : finz exC x = -1 := finz_miss (fun j hj => by
              have : j = 0 ∨ j = 1 ∨ j = 2 ∨ j = 3 := by simp [exC] at hj; omega
              rcases this with rfl | rfl | rfl | rfl <;> simp [cat, exC] <;> omega)
            rw [hm]
            simp [h1, h2, h3]
  rw [h.unique hx]
  rfl
theorem ex_bounds : InsB exL := fun k hk => by
  have : k = 0 ∨ k = 1 ∨ k = 2 ∨ k = 3 := by simp [exL] at hk; omega
  rcases this with rfl | rfl | rfl | rfl <;> decide

set_option maxRecDepth 100000 in
set_option maxHeartbeats 2000000 in
theorem lives6_any (SO : SrtAs) (w : World) : Calls Tryd.prog 16 #[] w fun e w' => e = .returned (.bool true) ∧ Below w.heap.size w w' := by
  have HF := hid (plain6_yes 97 w (by decide) (by decide) prime97M)
  have HSO := hid SO
  clear SO
  go_enter Tryd.func16, Tryd.ntmps16
  go_wp2_with fail
  refine HF.out.mono ?_
  rintro e w1 ⟨rfl, hc1, hb1⟩
  have HB1 := hid hb1
  clear hb1 HF
  go_wp2_with fail
  obtain ⟨V, hV⟩ : ∃ V, V = w1.alloc (.cells #[.int .i64 5, .int .i64 0, .int .i64 5, .int .i64 0, .int .i64 5, .int .i64 1, .int .i64 (-1), .int .i64 0, .int .i64 3, .int .i64 0, .int .i64 1, .int .i64 2, .int .i64 0, .int .i64 2, .int .i64 0, .int .i64 0] 71) := ⟨_, rfl⟩
  obtain ⟨W2, hW2⟩ : ∃ W2, W2 = V.alloc (.cells #[.int .i64 3, .slice (some ⟨w1.heap.size, 0, none⟩) 4 4] 24) := ⟨_, rfl⟩
  have b1 : Below w1.heap.size w1 V := by rw [hV]; exact (Below.refl _ _).alloc (Nat.le_refl _) _
  have b2 : Below V.heap.size V W2 := by rw [hW2]; exact (Below.refl _ _).alloc (Nat.le_refl _) _
  have hs : V.heap.size = w1.heap.size + 1 := by rw [hV]; simp
  have hs2 : W2.heap.size = V.heap.size + 1 := by rw [hW2]; simp
  have b12 := b1.trans (b2.mono b1.size)
  have hrow : W2.heap[w1.heap.size]? = some (.cells #[.int .i64 5, .int .i64 0, .int .i64 5, .int .i64 0, .int .i64 5, .int .i64 1, .int .i64 (-1), .int .i64 0, .int .i64 3, .int .i64 0, .int .i64 1, .int .i64 2, .int .i64 0, .int .i64 2, .int .i64 0, .int .i64 0] 71 (0, 0)) := (b2.block _ (by omega)).trans (by rw [hV]; exact heap_alloc_new w1 _)
  have HLI : Hid (LstI W2.heap.size W2 (some ⟨w1.heap.size, 0, none⟩) 4 exL) := by
    refine ⟨fun k hk => ⟨w1.heap.size, 0, rfl, by omega, ?_⟩, Nat.le_refl _, fun h => by cases h⟩
    have : k = 0 ∨ k = 1 ∨ k = 2 ∨ k = 3 := by simp [exL] at hk; omega
    rcases this with rfl | rfl | rfl | rfl <;> simp [World.cell?, hrow, insat, exL]
  have HRN := hid (prun_any HSO.out 97 w.heap.size 3 3 (some ⟨w1.heap.size, 0, none⟩) 4 exL W2 (by decide) (by decide) prime97M ((b12.cell (p := ⟨w.heap.size, 0, none⟩) (World.block_lt_of_cell? _ _ hc1)).trans hc1) (by decide) HLI.out ex_bounds)
  have HB2 := hid (HB1.out.trans (b12.mono HB1.out.size))
  rw [← hV, ← hW2]
  clear hV hW2 b1 b2 hs hs2 b12 hrow HLI HSO HB1 hc1
  refine HRN.out.mono ?_
  rintro e w3 ⟨hb3, hr3⟩
  obtain ⟨l, hX, hl4, hou⟩ := ex_walk
  have hf0 : ¬ fz6 ((97 : Nat) : Int) 3 exL.length 3 ≠ 0 := by decide
  rw [if_neg hf0, show (3 : Int).toNat = 3 from rfl, hX] at hr3
  obtain ⟨v, l', rfl, hcl, hasc⟩ := hr3
  have hl3 := ex_cells hasc
  obtain ⟨a3, c3, rfl⟩ := hcl.form
  rw [hl3, hou, hl4]
  have HB3 := hid (HB2.out.trans (hb3.mono HB2.out.size))
  clear hb3 HRN HB2 hX hl4 hou hf0 hcl hasc hl3
  go_wp2_with fail
  go_ret
  exact ⟨rfl, HB3.out.alloc HB3.out.size _⟩

/-- what Run gives, in two -/
theorem RuR.cases {p : Nat} {size : Int} {L : List InsZ} {limit : Int} {w w' : World} {e : Ending} (h : RuR p size L limit w e w') :
    (∃ z, z ≠ 0 ∧ e = .returned (.tuple #[.agg #[.int .i64 0, .int .i64 0, .slice none 0 0], .iface 68 (.int .i64 z)]) ∧ ((fz6 (p : Int) size L.length limit ≠ 0 ∧ z = fz6 (p : Int) size L.length limit) ∨ (fz6 (p : Int) size L.length limit = 0 ∧ mwalk p size L limit.toNat = .bad z))) ∨
    (fz6 (p : Int) size L.length limit = 0 ∧ ∃ l cs a c l', mwalk p size L limit.toNat = .good l cs ∧ 0 < l.length ∧ e = .returned (.tuple #[.agg #[.int .i64 (outv l), .int .i64 ((l.length - 1 : Nat) : Int), .slice a l'.length c], .nilIface]) ∧ CelR w.heap.size w' (.slice a l'.length c) l' ∧ AscC cs l') := by
  obtain ⟨_, h2⟩ := h
  by_cases hz : fz6 (p : Int) size L.length limit ≠ 0
  · rw [if_pos hz, errV_nz hz] at h2
    exact .inl ⟨_, hz, h2, .inl ⟨hz, rfl⟩⟩
  · rw [if_neg hz] at h2
    have hz0 : fz6 (p : Int) size L.length limit = 0 := Decidable.byContradiction hz
    cases hX : mwalk p size L limit.toNat with
    | bad z =>
      rw [hX] at h2
      have hnz := mgo_bad _ _ _ _ _ _ _ hX
      have h2' : e = _ := h2
      rw [errV_nz hnz] at h2'
      exact .inl ⟨z, hnz, h2', .inr ⟨hz0, rfl⟩⟩
    | good l cs =>
      rw [hX] at h2
      obtain ⟨v, l', h5, h6, h7⟩ := h2
      obtain ⟨a, c, rfl⟩ := h6.form
      exact .inr ⟨hz0, l, cs, a, c, l', rfl, (mgo_len _ _ _ _ _ _ _ _ hX).1, h5, h6, h7⟩
theorem fz6_lim {p size : Int} {n : Nat} {l1 l2 : Int} (h : fz6 p size n l1 = 0) : fz6 p size n l2 = if l2 < 0 ∨ 16384 < l2 then 3 else 0 := by
  unfold fz6 at h ⊢
  split at h
  · omega
  · rename_i h1
    rw [if_neg h1]

end Go.Proofs.YthemehdcakimgaiDoor
