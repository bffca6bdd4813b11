/- attestref6.Run, plainly: the least cell above a number, again and again. attestlaw6: rans, plain. attestlaw6: plain, lives. -/
import Derived.Test.YtaibngnabhmabajGreatDoorBtBB
import Derived.Test.YtaibngnabhmabajGreatDoorFld
namespace Go.Proofs.YtaibngnabhmabajGreatDoor
open Go.RowKit Go.Maps

/-- the least of the first i cells above low -/
def Bst (cs : List (Int × Int)) (low : Int) (i : Nat) (b : Int) : Prop := (b = -1 ∧ ∀ j, j < i → (cat cs j).1 ≤ low) ∨ ∃ m : Nat, b = m ∧ m < i ∧ low < (cat cs m).1 ∧ (∀ j, j < i → low < (cat cs j).1 → (cat cs m).1 ≤ (cat cs j).1) ∧ (∀ j, j < m → (cat cs j).1 ≠ (cat cs m).1)
theorem bst_first (cs : List (Int × Int)) (low : Int) : Bst cs low 0 (-1) := .inl ⟨rfl, fun _ h => absurd h (Nat.not_lt_zero _)⟩
theorem bst_skip {cs : List (Int × Int)} {low : Int} {i : Nat} {b : Int} (h : Bst cs low i b) (hn : (cat cs i).1 ≤ low ∨ ∃ m : Nat, b = m ∧ (cat cs m).1 ≤ (cat cs i).1) : Bst cs low (i + 1) b := by
  rcases h with ⟨h1, h2⟩ | ⟨m, h1, h2, h3, h4, h5⟩
  · refine .inl ⟨h1, fun j hj => ?_⟩
    rcases hn with hn | ⟨m, hm, _⟩
    · by_cases e : j = i
      · rw [e]; exact hn
      · exact h2 j (by omega)
    · omega
  · refine .inr ⟨m, h1, by omega, h3, fun j hj hl => ?_, h5⟩
    by_cases e : j = i
    · subst e
      rcases hn with hn | ⟨m', hm, hn⟩
      · omega
      · have : m' = m := by omega
        subst this
        exact hn
    · exact h4 j (by omega) hl
theorem bst_take {cs : List (Int × Int)} {low : Int} {i : Nat} {b : Int} (h : Bst cs low i b) (hl : low < (cat cs i).1) (hn : b < 0 ∨ ∃ m : Nat, b = m ∧ (cat cs i).1 < (cat cs m).1) : Bst cs low (i + 1) i := by
  refine .inr ⟨i, rfl, by omega, hl, ?_, ?_⟩
  · intro j hj hlj
    by_cases e : j = i
    · rw [e]; exact Int.le_refl _
    · rcases h with ⟨_, h2⟩ | ⟨m, h1, h2, h3, h4, _⟩
      · have := h2 j (by omega); omega
      · have := h4 j (by omega) hlj
        rcases hn with hn | ⟨m', hm, hn⟩
        · omega
        · have : m' = m := by omega
          subst this
          omega
  · intro j hj e
    rcases h with ⟨_, h2⟩ | ⟨m, h1, h2, h3, h4, _⟩
    · have := h2 j hj; omega
    · have := h4 j hj (by omega)
      rcases hn with hn | ⟨m', hm, hn⟩
      · omega
      · have : m' = m := by omega
        subst this
        omega
/-- what is listed so far -/
def Pre6 (cs : List (Int × Int)) (low : Int) (pre : List (Int × Int)) : Prop := 0 ≤ low ∧ pre.Pairwise (fun a b => a.1 < b.1) ∧ ∀ x y, (x, y) ∈ pre ↔ (0 < x ∧ x ≤ low ∧ 0 ≤ finz cs x ∧ cvl cs x = y)
theorem pre6_first (cs : List (Int × Int)) : Pre6 cs 0 [] := ⟨Int.le_refl _, List.Pairwise.nil, fun x y => ⟨fun h => (by cases h), fun h => by omega⟩⟩
theorem finz_at {cs : List (Int × Int)} {m : Nat} (hm : m < cs.length) (hn : ∀ j, j < m → (cat cs j).1 ≠ (cat cs m).1) : finz cs (cat cs m).1 = m ∧ cvl cs (cat cs m).1 = (cat cs m).2 := by
  have h := finz_hit hm rfl hn
  refine ⟨h, ?_⟩
  unfold cvl
  rw [h, if_pos (by omega), Int.toNat_natCast]
theorem pre6_more {cs : List (Int × Int)} {low : Int} {pre : List (Int × Int)} {m : Nat} (h : Pre6 cs low pre) (hm : m < cs.length) (hl : low < (cat cs m).1) (hle : ∀ j, j < cs.length → low < (cat cs j).1 → (cat cs m).1 ≤ (cat cs j).1) (hn : ∀ j, j < m → (cat cs j).1 ≠ (cat cs m).1) : Pre6 cs (cat cs m).1 (pre ++ [cat cs m]) := by
  obtain ⟨h1, h2, h3⟩ := h
  obtain ⟨f1, f2⟩ := finz_at hm hn
  refine ⟨by omega, ?_, fun x y => ?_⟩
  · rw [List.pairwise_append]
    refine ⟨h2, List.pairwise_singleton _ _, fun a ha b hb => ?_⟩
    rw [List.mem_singleton] at hb
    subst hb
    have := (h3 a.1 a.2).1 ha
    omega
  · rw [List.mem_append, List.mem_singleton, h3 x y]
    constructor
    · rintro (⟨e1, e2, e3⟩ | e)
      · exact ⟨e1, by omega, e3⟩
      · have ex : x = (cat cs m).1 := congrArg Prod.fst e
        have ey : y = (cat cs m).2 := congrArg Prod.snd e
        subst ex ey
        exact ⟨by omega, Int.le_refl _, by omega, f2⟩
    · rintro ⟨e1, e2, e3, e4⟩
      by_cases hx : x ≤ low
      · exact .inl ⟨e1, hx, e3, e4⟩
      · right
        rcases finz_cases cs x with e5 | ⟨i, e5, e6, e7⟩
        · omega
        · have := hle i e6 (by omega)
          have hxe : x = (cat cs m).1 := by omega
          have hye : y = (cat cs m).2 := by rw [← e4, hxe]; exact f2
          rw [hxe, hye]
theorem pre6_end {p : Nat} {cs : List (Int × Int)} {low : Int} {pre : List (Int × Int)} (h : Pre6 cs low pre) (hb : ∀ u, 0 ≤ finz cs u → 0 ≤ u ∧ u < (p : Int)) (hp : p ≤ 2147483647) (hle : ∀ j, j < cs.length → (cat cs j).1 ≤ low) : AscC cs pre := by
  refine ⟨h.2.1, fun x y => ?_⟩
  rw [h.2.2 x y]
  constructor
  · rintro ⟨e1, e2, e3, e4⟩
    have := hb x e3
    exact ⟨by omega, ⟨by omega, by omega⟩, e3, e4⟩
  · rintro ⟨e1, e2, e3, e4⟩
    have := hb x e3
    rcases finz_cases cs x with e5 | ⟨i, e5, e6, e7⟩
    · omega
    · have := hle i e6
      exact ⟨by omega, by omega, e3, e4⟩
theorem finz_key {cs : List (Int × Int)} {j : Nat} (hj : j < cs.length) : 0 ≤ finz cs (cat cs j).1 := by
  rcases Int.lt_or_le (finz cs (cat cs j).1) 0 with h | h
  · exfalso
    have hm : finz cs (cat cs j).1 ≠ -1 := by
      intro e
      unfold finz at e
      split at e
      · omega
      · rename_i hnone
        rw [List.findIdx?_eq_none_iff] at hnone
        have h1 := hnone cs[j] (List.getElem_mem hj)
        simp [cat, hj] at h1
    rcases finz_cases cs (cat cs j).1 with e | ⟨i, e, _⟩
    · exact hm e
    · omega
  · exact h

end Go.Proofs.YtaibngnabhmabajGreatDoor

namespace Go.Proofs.YtaibngnabhmabajGreatDoor
open Go.RowKit Go.Maps

theorem celv_int : ∀ (l : List (Int × Int)) (m : Nat), m < (celv l).length → ∃ x, (celv l)[m]? = some (.int .i64 x) := fun l m hm => by
  rw [celv_len] at hm
  obtain ⟨h1, h2⟩ := celv_at l (m / 2) (by omega)
  have : m = m / 2 * 2 ∨ m = m / 2 * 2 + 1 := by omega
  rcases this with e | e
  · rw [e]; exact ⟨_, h1⟩
  · rw [e]; exact ⟨_, h2⟩
theorem CelR.cellsM {base : Nat} {w : World} {v : Value} {l : List (Int × Int)} (h : CelR base w v l) (h0 : 0 < l.length) : ∃ g cap, v = .slice (some ⟨g, 0, none⟩) l.length cap ∧ ∀ m x, (celv l)[m]? = some (.int .i64 x) → w.cell? ⟨g, m, none⟩ = some (.int .i64 x) := by
  have h' := h
  rcases h.2 with ⟨_, hn⟩ | ⟨g, cap, cur, rfl, hb, hg, hn, hm, hs, ht⟩
  · omega
  · refine ⟨g, cap, rfl, fun m x hx => ?_⟩
    have := World.ownsRow.cells h' (g := g) rfl m _ hx
    have hadd : (⟨g, 0, none⟩ : Addr).add m = ⟨g, 0 + m, none⟩ := by unfold Addr.add; split <;> simp_all
    rw [hadd, Nat.zero_add] at this
    exact this
theorem CelR.belowM {base : Nat} {w w' : World} {v : Value} {l : List (Int × Int)} (h : CelR base w v l) (e : Below w.heap.size w w') : CelR base w' v l := by
  refine ⟨h.1, ?_⟩
  rcases h.2 with hn | ⟨g, cap, cur, h1, hb, hg, rest⟩
  · exact .inl hn
  · exact .inr ⟨g, cap, cur, h1, hb, (e.block _ (Array.getElem?_eq_some_iff.1 hg).1).trans hg, rest⟩
theorem neq_cell (y0 y1 : Int) (w : World) : (binOp BinOp.neq 149 (.agg #[.int .i64 y0, .int .i64 y1]) (.agg #[.int .i64 y0, .int .i64 y1])).run Tryz.prog w = .ok (.bool false) w := by
  simp [go_sem]

end Go.Proofs.YtaibngnabhmabajGreatDoor

namespace Go.Proofs.YtaibngnabhmabajGreatDoor
open Go.RowKit Go.Maps

set_option maxRecDepth 100000 in
theorem plain6_yes (q : Nat) (w : World) (h3 : 3 ≤ q) (h4 : q ≤ 2147483647) (hpr : Num.Prime q) :
    Calls Tryz.prog 15 #[.int .i64 q] w fun e w' => e = .returned (.pointer (some ⟨w.heap.size, 0, none⟩)) ∧ w'.cell? ⟨w.heap.size, 0, none⟩ = some (.int .i64 q) ∧ Below w.heap.size w w' := by
  have HF := hid (new_yes q w h3 h4 hpr)
  clear hpr
  go_enter Tryz.func15, Tryz.ntmps15
  go_wp2_with fail
  refine HF.out.mono ?_
  rintro e w1 ⟨rfl, hc1, hb1, hlt1⟩
  have HE : Hid (w1.cell? ⟨w.heap.size, 0, none⟩ = some (.int .i64 q) ∧ Below w.heap.size w w1) := ⟨hc1, hb1⟩
  clear hc1 hb1 HF
  go_wp2_with fail
  go_ret
  exact ⟨rfl, HE.out⟩
set_option maxRecDepth 100000 in
theorem plain6_no (p : Int) (w : World) (hno : ¬ okPrime p) (hp1 : -9223372036854775808 ≤ p) (hp2 : p ≤ 9223372036854775807) :
    Calls Tryz.prog 15 #[.int .i64 p] w fun e w' => e = .returned (.pointer none) ∧ w' = w := by
  have HF := hid (new_no p w hno hp1 hp2)
  clear hno hp1 hp2
  go_enter Tryz.func15, Tryz.ntmps15
  go_wp2_with fail
  refine HF.out.mono ?_
  rintro e w1 ⟨rfl, rfl⟩
  go_wp2_with fail
  go_ret
  exact ⟨rfl, rfl⟩

theorem prime97M : Num.Prime 97 := by
  refine ⟨by decide, fun d hd => ?_⟩
  have hle : d ≤ 97 := Nat.le_of_dvd (by decide) hd
  have key : ∀ e, e ≤ 97 → 97 % e = 0 → e = 1 ∨ e = 97 := by decide
  exact key d hle (Nat.mod_eq_zero_of_dvd hd)
/-- chapter 10's example -/
def exL : List InsZ := [⟨5, 0, 5, 0⟩, ⟨5, 1, -1, 0⟩, ⟨3, 0, 1, 2⟩, ⟨0, 2, 0, 0⟩]
def exC : List (Int × Int) := [(0, 0), (1, 5), (2, 96), (3, 92)]
theorem ex_walk : ∃ l, mwalk 97 3 exL 3 = .good l exC ∧ l.length = 4 ∧ outv l = 92 := ⟨_, rfl, rfl, rfl⟩
theorem ex_cells {l : List (Int × Int)} (h : AscC exC l) : l.length = 3 := by
  have hx : AscC exC [(1, 5), (2, 96), (3, 92)] := by
    refine ⟨by decide, fun x y => ?_⟩
    by_cases h0 : x = 0
    · subst h0; simp
    · by_cases h1 : x = 1
      · subst h1
        simp [cvl, finz, exC, cat, I64, List.findIdx?_cons]
        omega
      · by_cases h2 : x = 2
        · subst h2
          simp [cvl, finz, exC, cat, I64, List.findIdx?_cons]
          omega
        · by_cases h3 : x = 3
          · subst h3
            simp [cvl, finz, exC, cat, I64, List.findIdx?_cons]
            omega
          · have hm : finz exC x = -1 := finz_miss (fun j hj => by
              have : j = 0 ∨ j = 1 ∨ j = 2 ∨ j = 3 := by simp [exC] at hj; omega
              rcases this with rfl | rfl | rfl | rfl <;> simp [cat, exC] <;> omega)
            rw [hm]
            simp [h1, h2, h3]
  rw [h.unique hx]
  rfl
theorem ex_bounds : InsB exL := fun k hk => by
  have : k = 0 ∨ k = 1 ∨ k = 2 ∨ k = 3 := by simp [exL] at hk; omega
  rcases this with rfl | rfl | rfl | rfl <;> decide

set_option maxRecDepth 100000 in
set_option maxHeartbeats 2000000 in
theorem lives6_any (SO : SrtAs) (w : World) : Calls Tryz.prog 14 #[] w fun e w' => e = .returned (.bool true) ∧ Below w.heap.size w w' := by
  have HF := hid (plain6_yes 97 w (by decide) (by decide) prime97M)
  have HSO := hid SO
  clear SO
  go_enter Tryz.func14, Tryz.ntmps14
  go_wp2_with fail
  refine HF.out.mono ?_
  rintro e w1 ⟨rfl, hc1, hb1⟩
  have HB1 := hid hb1
  clear hb1 HF
  go_wp2_with fail
  obtain ⟨V, hV⟩ : ∃ V, V = w1.alloc (.cells #[.int .i64 5, .int .i64 0, .int .i64 5, .int .i64 0, .int .i64 5, .int .i64 1, .int .i64 (-1), .int .i64 0, .int .i64 3, .int .i64 0, .int .i64 1, .int .i64 2, .int .i64 0, .int .i64 2, .int .i64 0, .int .i64 0] 52) := ⟨_, rfl⟩
  obtain ⟨W2, hW2⟩ : ∃ W2, W2 = V.alloc (.cells #[.int .i64 3, .slice (some ⟨w1.heap.size, 0, none⟩) 4 4] 47) := ⟨_, rfl⟩
  have b1 : Below w1.heap.size w1 V := by rw [hV]; exact (Below.refl _ _).alloc (Nat.le_refl _) _
  have b2 : Below V.heap.size V W2 := by rw [hW2]; exact (Below.refl _ _).alloc (Nat.le_refl _) _
  have hs : V.heap.size = w1.heap.size + 1 := by rw [hV]; simp
  have hs2 : W2.heap.size = V.heap.size + 1 := by rw [hW2]; simp
  have b12 := b1.trans (b2.mono b1.size)
  have hrow : W2.heap[w1.heap.size]? = some (.cells #[.int .i64 5, .int .i64 0, .int .i64 5, .int .i64 0, .int .i64 5, .int .i64 1, .int .i64 (-1), .int .i64 0, .int .i64 3, .int .i64 0, .int .i64 1, .int .i64 2, .int .i64 0, .int .i64 2, .int .i64 0, .int .i64 0] 52 (0, 0)) := (b2.block _ (by omega)).trans (by rw [hV]; exact heap_alloc_new w1 _)
  have HLI : Hid (LstI W2.heap.size W2 (some ⟨w1.heap.size, 0, none⟩) 4 exL) := by
    refine ⟨fun k hk => ⟨w1.heap.size, 0, rfl, by omega, ?_⟩, Nat.le_refl _, fun h => by cases h⟩
    have : k = 0 ∨ k = 1 ∨ k = 2 ∨ k = 3 := by simp [exL] at hk; omega
    rcases this with rfl | rfl | rfl | rfl <;> simp [World.cell?, hrow, insat, exL]
  have HRN := hid (prun_any HSO.out 97 w.heap.size 3 3 (some ⟨w1.heap.size, 0, none⟩) 4 exL W2 (by decide) (by decide) prime97M ((b12.cell (p := ⟨w.heap.size, 0, none⟩) (World.block_lt_of_cell? _ _ hc1)).trans hc1) (by decide) HLI.out ex_bounds)
  have HB2 := hid (HB1.out.trans (b12.mono HB1.out.size))
  rw [← hV, ← hW2]
  clear hV hW2 b1 b2 hs hs2 b12 hrow HLI HSO HB1 hc1
  refine HRN.out.mono ?_
  rintro e w3 ⟨hb3, hr3⟩
  obtain ⟨l, hX, hl4, hou⟩ := ex_walk
  have hf0 : ¬ fz6 ((97 : Nat) : Int) 3 exL.length 3 ≠ 0 := by decide
  rw [if_neg hf0, show (3 : Int).toNat = 3 from rfl, hX] at hr3
  obtain ⟨v, l', rfl, hcl, hasc⟩ := hr3
  have hl3 := ex_cells hasc
  obtain ⟨a3, c3, rfl⟩ := hcl.form
  rw [hl3, hou, hl4]
  have HB3 := hid (HB2.out.trans (hb3.mono HB2.out.size))
  clear hb3 HRN HB2 hX hl4 hou hf0 hcl hasc hl3
  go_wp2_with fail
  go_ret
  exact ⟨rfl, HB3.out.alloc HB3.out.size _⟩

/-- what Run gives, in two -/
theorem RuR.cases {p : Nat} {size : Int} {L : List InsZ} {limit : Int} {w w' : World} {e : Ending} (h : RuR p size L limit w e w') :
    (∃ z, z ≠ 0 ∧ e = .returned (.tuple #[.agg #[.int .i64 0, .int .i64 0, .slice none 0 0], .iface 80 (.int .i64 z)]) ∧ ((fz6 (p : Int) size L.length limit ≠ 0 ∧ z = fz6 (p : Int) size L.length limit) ∨ (fz6 (p : Int) size L.length limit = 0 ∧ mwalk p size L limit.toNat = .bad z))) ∨
    (fz6 (p : Int) size L.length limit = 0 ∧ ∃ l cs a c l', mwalk p size L limit.toNat = .good l cs ∧ 0 < l.length ∧ e = .returned (.tuple #[.agg #[.int .i64 (outv l), .int .i64 ((l.length - 1 : Nat) : Int), .slice a l'.length c], .nilIface]) ∧ CelR w.heap.size w' (.slice a l'.length c) l' ∧ AscC cs l') := by
  obtain ⟨_, h2⟩ := h
  by_cases hz : fz6 (p : Int) size L.length limit ≠ 0
  · rw [if_pos hz, errV_nz hz] at h2
    exact .inl ⟨_, hz, h2, .inl ⟨hz, rfl⟩⟩
  · rw [if_neg hz] at h2
    have hz0 : fz6 (p : Int) size L.length limit = 0 := Decidable.byContradiction hz
    cases hX : mwalk p size L limit.toNat with
    | bad z =>
      rw [hX] at h2
      have hnz := mgo_bad _ _ _ _ _ _ _ hX
      have h2' : e = _ := h2
      rw [errV_nz hnz] at h2'
      exact .inl ⟨z, hnz, h2', .inr ⟨hz0, rfl⟩⟩
    | good l cs =>
      rw [hX] at h2
      obtain ⟨v, l', h5, h6, h7⟩ := h2
      obtain ⟨a, c, rfl⟩ := h6.form
      exact .inr ⟨hz0, l, cs, a, c, l', rfl, (mgo_len _ _ _ _ _ _ _ _ hX).1, h5, h6, h7⟩
theorem fz6_lim {p size : Int} {n : Nat} {l1 l2 : Int} (h : fz6 p size n l1 = 0) : fz6 p size n l2 = if l2 < 0 ∨ 16384 < l2 then 3 else 0 := by
  unfold fz6 at h ⊢
  split at h
  · omega
  · rename_i h1
    rw [if_neg h1]

end Go.Proofs.YtaibngnabhmabajGreatDoor
