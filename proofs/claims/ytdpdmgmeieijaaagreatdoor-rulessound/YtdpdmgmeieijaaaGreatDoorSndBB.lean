/- attestref8.Table for any size. A run's table breaks no rule, and its pairs are alike: plainly. Chapter 13's example, reckoned; attestlaw7's plain and lives. Package rules: a view in memory; its small functions. Package rules: the cells of an instruction; sums of terms. -/
import Derived.Test.YtdpdmgmeieijaaaGreatDoorRvP
import Derived.Test.YtdpdmgmeieijaaaGreatDoorSndAZ
import Derived.Test.YtdpdmgmeieijaaaGreatDoorSndBA
import Derived.Test.YtdpdmgmeieijaaaGreatDoorSndAY
import Derived.Test.YtdpdmgmeieijaaaGreatDoorSndAN
import Derived.Test.YtdpdmgmeieijaaaGreatDoorFld
import Derived.Deep.RegionHeld3
namespace Go.Proofs.YtdpdmgmeieijaaaGreatDoor
open Go.RowKit Go.Maps

theorem TabG.row {p : Nat} {L : List InsZ} {st : List (List Int)} {n : Nat} {T : List (List Int)} (h : TabG p L st n T) {k : Nat} (hk : k < n) : (rat T k).length = 20 + L.length := by
  obtain ⟨_, ps, h1, rfl⟩ := h
  rw [fS_row_len _ _ _ _ (by rw [fillH_len, shns_len]; exact Nat.le_refl _), fillH_row_len (by rw [shns_len]; exact hk), shns_rat _ _ _ hk, shn_len]
end Go.Proofs.YtdpdmgmeieijaaaGreatDoor

namespace Go.Proofs.YtdpdmgmeieijaaaGreatDoor
open Go.RowKit Go.Maps

section
variable {p : Nat} {L : List InsZ} {st : List (List Int)} {n : Nat} {cs : List (Int × Int)}
end

end Go.Proofs.YtdpdmgmeieijaaaGreatDoor

namespace Go.Proofs.YtdpdmgmeieijaaaGreatDoor
open Go.RowKit Go.Maps

/-- the example's code, its steps, its rows, their pairs sorted, the table -/
def xtL : List InsZ := [⟨5, 0, 5, 0⟩, ⟨0, 0, 0, 0⟩]
def xtS : List (List Int) := [[0, 1, 2, 0, 1, 0, 0, 5, 0, 0], [1, 1, 2, 0, 1, 0, 0, 5, 0, 0]]
def xtR : List (List Int) := [[1, 2, 0, 1, 0, 0, 0, 5, 0, 0, 0, 0, 0, 0, 0, 0, 0, 0, 0, 0, 1, 0], [1, 2, 0, 1, 0, 0, 0, 5, 0, 0, 0, 0, 0, 0, 0, 0, 0, 0, 0, 0, 0, 1]]
def xtP : List (Int × Int) := [(0, 0), (0, 0), (0, 0), (0, 0), (0, 0), (0, 0), (1, 5), (1, 5)]
def xtT0 : List Int := [1, 2, 0, 1, 0, 0, 0, 5, 0, 0, 0, 0, 0, 0, 0, 0, 0, 0, 0, 0, 1, 0]
def xtT1 : List Int := [1, 2, 0, 1, 0, 0, 0, 5, 0, 0, 0, 0, 0, 0, 1, 1, 0, 0, 5, 5, 0, 1]
theorem xt_walk : ∃ cs, mwalk 97 1 xtL 1 = .good xtS cs := ⟨_, rfl⟩
theorem xt_bounds : InsB xtL := fun k hk => by
  have : k = 0 ∨ k = 1 := by simp [xtL] at hk; omega
  rcases this with rfl | rfl <;> decide
theorem xt_stb : ∀ s, s ∈ xtS → StB 97 xtL.length s := by
  intro s hs
  simp only [xtS, List.mem_cons, List.not_mem_nil, or_false] at hs
  rcases hs with rfl | rfl
  · refine ⟨rfl, fun j hj => ?_, by decide⟩
    have : j = 0 ∨ j = 1 ∨ j = 2 ∨ j = 3 ∨ j = 4 ∨ j = 5 ∨ j = 6 ∨ j = 7 ∨ j = 8 ∨ j = 9 := by omega
    rcases this with rfl | rfl | rfl | rfl | rfl | rfl | rfl | rfl | rfl | rfl <;> decide
  · refine ⟨rfl, fun j hj => ?_, by decide⟩
    have : j = 0 ∨ j = 1 ∨ j = 2 ∨ j = 3 ∨ j = 4 ∨ j = 5 ∨ j = 6 ∨ j = 7 ∨ j = 8 ∨ j = 9 := by omega
    rcases this with rfl | rfl | rfl | rfl | rfl | rfl | rfl | rfl | rfl | rfl <;> decide
theorem xt_shns : shns 97 xtL xtS 2 = xtR := by decide
theorem xt_tho : tho 97 xtL xtS 2 = [] := by
  rw [tho_filter (p := 97) (t := 1) (by decide) xt_stb (by decide) (by decide) ⟨by decide, by rw [xt_shns]; decide, .inr (by rw [xt_shns]; decide)⟩, xt_shns]
  decide
theorem xt_fill : fillH (shns 97 xtL xtS 2) (tho 97 xtL xtS 2) = xtR := by rw [xt_tho, xt_shns]; decide
theorem xt_tab : TabG 97 xtL xtS 2 [xtT0, xtT1] := by
  refine ⟨by rw [xt_tho]; decide, xtP, ?_, ?_⟩
  · rw [xt_fill]
    refine ⟨by decide, ?_⟩
    decide
  · rw [xt_fill]; decide

set_option maxHeartbeats 1000000 in
theorem plain7_yes (q : Nat) (w : World) (h3 : 3 ≤ q) (h4 : q ≤ 2147483647) (hpr : Num.Prime q) :
    Calls Tryz.prog 5 #[.int .i64 q] w fun e w' => e = .returned (.pointer (some ⟨w.heap.size, 0, none⟩)) ∧ w'.cell? ⟨w.heap.size, 0, none⟩ = some (.int .i64 q) ∧ Below w.heap.size w w' := by
  have HF := hid (new_yes q w h3 h4 hpr)
  clear hpr
  go_enter Tryz.func5, Tryz.ntmps5
  go_wp2_with fail
  refine HF.out.mono ?_
  rintro e w1 ⟨rfl, hc1, hb1, hlt1⟩
  have HE : Hid (w1.cell? ⟨w.heap.size, 0, none⟩ = some (.int .i64 q) ∧ Below w.heap.size w w1) := ⟨hc1, hb1⟩
  clear hc1 hb1 HF
  go_wp2_with fail
  go_ret
  exact ⟨rfl, HE.out⟩
set_option maxHeartbeats 1000000 in
theorem plain7_no (p : Int) (w : World) (hno : ¬ okPrime p) (hp1 : -9223372036854775808 ≤ p) (hp2 : p ≤ 9223372036854775807) :
    Calls Tryz.prog 5 #[.int .i64 p] w fun e w' => e = .returned (.pointer none) ∧ w' = w := by
  have HF := hid (new_no p w hno hp1 hp2)
  clear hno hp1 hp2
  go_enter Tryz.func5, Tryz.ntmps5
  go_wp2_with fail
  refine HF.out.mono ?_
  rintro e w1 ⟨rfl, rfl⟩
  go_wp2_with fail
  go_ret
  exact ⟨rfl, rfl⟩

/-- a row of numbers in a block -/
theorem rowB_of_block {w : World} {g : Nat} {zs : List Int} {t : TypeId} {r : Nat × Nat} (h : w.heap[g]? = some (.cells (zs.map (Value.int .i64)).toArray t r)) : RowB w.heap.size w (some ⟨g, 0, none⟩) zs := fun k hk => by
  refine ⟨g, 0, rfl, (Array.getElem?_eq_some_iff.1 h).1, ?_⟩
  simp [World.cell?, h, hk, zat]

set_option maxRecDepth 100000 in
set_option maxHeartbeats 4000000 in
theorem lives7_any (w : World) : Calls Tryz.prog 4 #[] w fun e w' => e = .returned (.bool true) ∧ Below w.heap.size w w' := by
  have HF := hid (plain7_yes 97 w (by decide) (by decide) prime97M)
  go_enter Tryz.func4, Tryz.ntmps4
  go_wp2_with fail
  refine HF.out.mono ?_
  rintro e w1 ⟨rfl, hc1, hb1⟩
  have HB1 := hid hb1
  clear hb1 HF
  go_wp2_with fail
  obtain ⟨V, hV⟩ : ∃ V, V = w1.alloc (.cells #[.int .i64 5, .int .i64 0, .int .i64 5, .int .i64 0, .int .i64 0, .int .i64 0, .int .i64 0, .int .i64 0] 45) := ⟨_, rfl⟩
  obtain ⟨W2, hW2⟩ : ∃ W2, W2 = V.alloc (.cells #[.int .i64 1, .slice (some ⟨w1.heap.size, 0, none⟩) 2 2] 24) := ⟨_, rfl⟩
  have b1 : Below w1.heap.size w1 V := by rw [hV]; exact (Below.refl _ _).alloc (Nat.le_refl _) _
  have b2 : Below V.heap.size V W2 := by rw [hW2]; exact (Below.refl _ _).alloc (Nat.le_refl _) _
  have hs : V.heap.size = w1.heap.size + 1 := by rw [hV]; simp
  have hs2 : W2.heap.size = V.heap.size + 1 := by rw [hW2]; simp
  have b12 := b1.trans (b2.mono b1.size)
  have hrow : W2.heap[w1.heap.size]? = some (.cells #[.int .i64 5, .int .i64 0, .int .i64 5, .int .i64 0, .int .i64 0, .int .i64 0, .int .i64 0, .int .i64 0] 45 (0, 0)) := (b2.block _ (by omega)).trans (by rw [hV]; exact heap_alloc_new w1 _)
  have HLI : Hid (LstI W2.heap.size W2 (some ⟨w1.heap.size, 0, none⟩) 2 xtL) := by
    refine ⟨fun k hk => ⟨w1.heap.size, 0, rfl, by omega, ?_⟩, Nat.le_refl _, fun h => by cases h⟩
    have : k = 0 ∨ k = 1 := by simp [xtL] at hk; omega
    rcases this with rfl | rfl <;> simp [World.cell?, hrow, insat, xtL]
  have HRN := hid (ptable_any 97 w.heap.size 1 2 (some ⟨w1.heap.size, 0, none⟩) 2 xtL W2 (by decide) (by decide) prime97M ((b12.cell (p := ⟨w.heap.size, 0, none⟩) (World.block_lt_of_cell? _ _ hc1)).trans hc1) (by decide) HLI.out xt_bounds)
  have HB2 := hid (HB1.out.trans (b12.mono HB1.out.size))
  rw [← hV, ← hW2]
  clear hV hW2 b1 b2 hs hs2 b12 hrow HLI HB1 hc1
  refine HRN.out.mono ?_
  rintro e w3 ⟨hb3, hr3⟩
  obtain ⟨cs, hX⟩ := xt_walk
  have hf0 : ¬ fz6 ((97 : Nat) : Int) 1 xtL.length (2 - 1) ≠ 0 := by decide
  rw [if_neg (by decide), if_neg hf0, show (2 - 1 : Int).toNat = 1 from rfl, hX] at hr3
  have hth : ¬ (2 : Int).toNat < (tho 97 xtL xtS (2 : Int).toNat).length := by rw [show (2 : Int).toNat = 2 from rfl, xt_tho]; decide
  simp only [if_neg hth] at hr3
  obtain ⟨T, G, K, hT, rfl, hTb⟩ := hr3
  obtain rfl : T = [xtT0, xtT1] := hT.one xt_tab
  have o0 := hTb.out 0 (by decide)
  have o1 := hTb.out 1 (by decide)
  have HW0 := hid ((hTb.row 0 (by decide)).lst (hTb.row 0 (by decide)).lt).row
  have HW1 := hid ((hTb.row 1 (by decide)).lst (hTb.row 1 (by decide)).lt).row
  have HB3 := hid (HB2.out.trans (hb3.mono HB2.out.size))
  have q5 : outS xtS = 5 := by decide
  rw [q5]
  rw [show (rat [xtT0, xtT1] 0).length = 22 from rfl] at o0
  rw [show (rat [xtT0, xtT1] 1).length = 22 from rfl] at o1
  rw [show rat [xtT0, xtT1] 0 = xtT0 from rfl] at HW0
  rw [show rat [xtT0, xtT1] 1 = xtT1 from rfl] at HW1
  have HGL := hid hTb.lt
  clear hT hTb hf0 hth hX q5 HB2 HRN hb3 cs
  generalize K 0 = K0 at *
  generalize K 1 = K1 at *
  obtain ⟨W4, hW4⟩ : ∃ W4, W4 = w3.alloc (.cells #[.int .i64 1, .int .i64 2, .int .i64 0, .int .i64 1, .int .i64 0, .int .i64 0, .int .i64 0, .int .i64 5, .int .i64 0, .int .i64 0, .int .i64 0, .int .i64 0, .int .i64 0, .int .i64 0, .int .i64 0, .int .i64 0, .int .i64 0, .int .i64 0, .int .i64 0, .int .i64 0, .int .i64 1, .int .i64 0] 3) := ⟨_, rfl⟩
  have hb4 : Below w3.heap.size w3 W4 := by rw [hW4]; exact (Below.refl _ _).alloc (Nat.le_refl _) _
  have HI4 := hid (ints_any xtT0 xtT0 _ _ W4 (rowZ_of_B 22 (RowB.mono hb4.size (RowB.below hb4 HW0.out))) (rowZ_of_B 22 (rowB_of_block (w := W4) (g := w3.heap.size) (zs := xtT0) (t := 3) (r := (0, 0)) (by rw [hW4]; exact heap_alloc_new w3 _))) (by decide) (by decide))
  rw [decide_eq_true rfl, show xtT0.length = 22 from rfl] at HI4
  have HB4 := hid hb4
  clear hb4
  go_wp2_with fail
  rw [← hW4]
  clear hW4 o0
  refine HI4.out.mono ?_
  rintro e w5 ⟨rfl, k5, rfl⟩
  have hb5 : Below w3.heap.size w3 (W4.drewN k5) := below_drewN HB4.out k5
  have HB5 := hid hb5
  have o1' := (hb5.cell (p := ⟨G, 1, none⟩) HGL.out).trans o1
  generalize W4.drewN k5 = w5 at *
  obtain ⟨W6, hW6⟩ : ∃ W6, W6 = w5.alloc (.cells #[.int .i64 1, .int .i64 2, .int .i64 0, .int .i64 1, .int .i64 0, .int .i64 0, .int .i64 0, .int .i64 5, .int .i64 0, .int .i64 0, .int .i64 0, .int .i64 0, .int .i64 0, .int .i64 0, .int .i64 1, .int .i64 1, .int .i64 0, .int .i64 0, .int .i64 5, .int .i64 5, .int .i64 0, .int .i64 1] 3) := ⟨_, rfl⟩
  have hb6 : Below w5.heap.size w5 W6 := by rw [hW6]; exact (Below.refl _ _).alloc (Nat.le_refl _) _
  have hb36 := HB5.out.trans (hb6.mono HB5.out.size)
  have HI6 := hid (ints_any xtT1 xtT1 _ _ W6 (rowZ_of_B 22 (RowB.mono hb36.size (RowB.below hb36 HW1.out))) (rowZ_of_B 22 (rowB_of_block (w := W6) (g := w5.heap.size) (zs := xtT1) (t := 3) (r := (0, 0)) (by rw [hW6]; exact heap_alloc_new w5 _))) (by decide) (by decide))
  rw [decide_eq_true rfl, show xtT1.length = 22 from rfl] at HI6
  have HB6 := hid (HB3.out.trans (hb36.mono HB3.out.size))
  clear hb6 hb36 o1 HB4 HI4 HB5 hb5
  go_wp2_with fail
  rw [← hW6]
  clear hW6 o1'
  refine HI6.out.mono ?_
  rintro e w7 ⟨rfl, k7, rfl⟩
  have HB7 := hid (below_drewN HB6.out k7)
  clear HI6
  go_wp2_with fail
  go_ret
  exact ⟨rfl, HB7.out⟩

end Go.Proofs.YtdpdmgmeieijaaaGreatDoor

namespace Go.Proofs.YtdpdmgmeieijaaaGreatDoor
open Go.RowKit Go.Maps

/-- what is known of a view's parts -/
structure VF (p : Nat) (L : List InsZ) (size out : Int) (r n : List Int) : Prop where
  h3 : 3 ≤ p
  h4 : p ≤ 2147483647
  hr : r.length = 20 + L.length
  hn : n.length = 20 + L.length
  fr : ∀ j, I64 (zat r j)
  fn : ∀ j, I64 (zat n j)
  hI : InsB L
  hl : L.length ≤ 4398046511104
  h1 : 1 ≤ L.length
  hsz : I64 size
  hout : I64 out
/-- a view in memory -/
structure VW (p b V : Nat) (L : List InsZ) (size out : Int) (r n : List Int) (aL : Option Addr) (cL : Nat) (ar : Option Addr) (cr : Nat) (an : Option Addr) (cn : Nat) (w : World) : Prop where
  blk : w.heap[V]? = some (.cells #[.pointer (some ⟨b, 0, none⟩), .int .i64 size, .slice aL L.length cL, .int .i64 out, .slice ar r.length cr, .slice an n.length cn] 101 (0, 0))
  fld : w.cell? ⟨b, 0, none⟩ = some (.int .i64 p)
  ins : LstI w.heap.size w aL cL L
  row : RowB w.heap.size w ar r
  nxt : RowB w.heap.size w an n
theorem VW.below {p b V : Nat} {L : List InsZ} {size out : Int} {r n : List Int} {aL : Option Addr} {cL : Nat} {ar : Option Addr} {cr : Nat} {an : Option Addr} {cn : Nat} {w w' : World} (h : VW p b V L size out r n aL cL ar cr an cn w) (e : Below w.heap.size w w') : VW p b V L size out r n aL cL ar cr an cn w' :=
  ⟨(e.block V (Array.getElem?_eq_some_iff.1 h.blk).1).trans h.blk, (e.cell (p := ⟨b, 0, none⟩) (World.block_lt_of_cell? _ _ h.fld)).trans h.fld, (h.ins.below e).mono e.size, RowB.mono e.size (RowB.below e h.row), RowB.mono e.size (RowB.below e h.nxt)⟩
theorem VW.cells {p b V : Nat} {L : List InsZ} {size out : Int} {r n : List Int} {aL : Option Addr} {cL : Nat} {ar : Option Addr} {cr : Nat} {an : Option Addr} {cn : Nat} {w : World} (h : VW p b V L size out r n aL cL ar cr an cn w) : w.cell? ⟨V, 0, none⟩ = some (.pointer (some ⟨b, 0, none⟩)) ∧ w.cell? ⟨V, 1, none⟩ = some (.int .i64 size) ∧ w.cell? ⟨V, 2, none⟩ = some (.slice aL L.length cL) ∧ w.cell? ⟨V, 3, none⟩ = some (.int .i64 out) ∧ w.cell? ⟨V, 4, none⟩ = some (.slice ar r.length cr) ∧ w.cell? ⟨V, 5, none⟩ = some (.slice an n.length cn) := by
  refine ⟨?_, ?_, ?_, ?_, ?_, ?_⟩ <;> simp [World.cell?, h.blk]
theorem rowB_at {n0 m : Nat} {w : World} {a : Option Addr} {zs : List Int} (h : RowB n0 w a zs) (hl : zs.length = 20 + m) : ∃ g o, a = some ⟨g, o, none⟩ ∧ ∀ i, i < 20 + m → w.cell? ⟨g, o + i, none⟩ = some (.int .i64 (zat zs i)) := by
  obtain ⟨g, o, h1, _, _⟩ := h 0 (by omega)
  refine ⟨g, o, h1, fun i hi => ?_⟩
  obtain ⟨g', o', h2, _, h4⟩ := h i (by omega)
  rw [h1] at h2
  injection h2 with h2
  injection h2 with h2 h3
  subst h2 h3
  exact h4
theorem VW.rowAt {p b V : Nat} {L : List InsZ} {size out : Int} {r n : List Int} {aL : Option Addr} {cL : Nat} {ar : Option Addr} {cr : Nat} {an : Option Addr} {cn : Nat} {w : World} (h : VW p b V L size out r n aL cL ar cr an cn w) (hl : r.length = 20 + L.length) : ∃ g o, ar = some ⟨g, o, none⟩ ∧ ∀ i, i < 20 + L.length → w.cell? ⟨g, o + i, none⟩ = some (.int .i64 (zat r i)) := rowB_at h.row hl
theorem VW.nxtAt {p b V : Nat} {L : List InsZ} {size out : Int} {r n : List Int} {aL : Option Addr} {cL : Nat} {ar : Option Addr} {cr : Nat} {an : Option Addr} {cn : Nat} {w : World} (h : VW p b V L size out r n aL cL ar cr an cn w) (hl : n.length = 20 + L.length) : ∃ g o, an = some ⟨g, o, none⟩ ∧ ∀ i, i < 20 + L.length → w.cell? ⟨g, o + i, none⟩ = some (.int .i64 (zat n i)) := rowB_at h.nxt hl

set_option maxRecDepth 100000 in
set_option maxHeartbeats 2000000 in
theorem vnotZero_any (p b V : Nat) (L : List InsZ) (size out : Int) (r n : List Int) (aL : Option Addr) (cL : Nat) (ar : Option Addr) (cr : Nat) (an : Option Addr) (cn : Nat) (w : World) (H : VF p L size out r n) (hV : VW p b V L size out r n aL cL ar cr an cn w)  :
    Calls Tryz.prog 121 #[.pointer (some ⟨V, 0, none⟩)] w fun e w' => e = .returned (.int .i64 ((zat r 11 * zat r 7) % (p : Int))) ∧ ∃ m, w' = w.drewN m := by
  have h3 := H.h3
  have h4 := H.h4
  have HEM : Hid (∀ a : Int, I64 (a % (p : Int))) := fun a => by have := emod_bounds a p H.h3; have := H.h4; unfold I64; omega
  obtain ⟨c0, c1, c2, c3, c4, c5⟩ := hV.cells
  have hpc := hV.fld
  have QP : Hid (∀ nn, (w.drewN nn).cell? ⟨b, 0, none⟩ = some (.int .i64 p)) := fun nn => hpc
  obtain ⟨br, orr, har, hrw⟩ := hV.rowAt H.hr
  subst har
  have r7 := hrw 7 (by omega)
  have i7 : I64 (zat r 7) := H.fr 7
  have l7 : (7 : Int) < (r.length : Int) := by have := H.hr; omega
  have r11 := hrw 11 (by omega)
  have i11 : I64 (zat r 11) := H.fr 11
  have l11 : (11 : Int) < (r.length : Int) := by have := H.hr; omega
  clear hrw
  have HC0 : Hid (∀ W : World, W.cell? ⟨b, 0, none⟩ = some (.int .i64 p) → Calls Tryz.prog 87 #[.pointer (some ⟨b, 0, none⟩), .int .i64 (zat r 11), .int .i64 (zat r 7)] W fun e w' => e = .returned (.int .i64 (((zat r 11) * (zat r 7)) % (p : Int))) ∧ w' = W) := fun W h => mul_any p b _ _ W h3 h4 h i11.1 i11.2 i7.1 i7.2
  clear i7 i11
  clear HEM H hV
  generalize (((zat r 11) * (zat r 7)) % (p : Int)) = t1 at *
  generalize zat r 7 = x7 at *
  generalize zat r 11 = x11 at *
  generalize r.length = lr at *
  generalize L.length = nL at *
  go_enter Tryz.func121, Tryz.ntmps121
  go_wp2_with fail
  go_quiet (first
    | (go_at_call 87; first | with_reducible exact Calls.quiet_of_same (HC0.out _ (QP.out _))))
  go_wp2_with fail
  go_ret
  exact ⟨rfl, _, rfl⟩

set_option maxRecDepth 100000 in
set_option maxHeartbeats 2000000 in
theorem vchoice_any (p b V : Nat) (L : List InsZ) (size out : Int) (r n : List Int) (aL : Option Addr) (cL : Nat) (ar : Option Addr) (cr : Nat) (an : Option Addr) (cn : Nat) (w : World) (H : VF p L size out r n) (hV : VW p b V L size out r n aL cL ar cr an cn w) (x : Int) (hx : I64 x)  :
    Calls Tryz.prog 62 #[.pointer (some ⟨V, 0, none⟩), .int .i64 x] w fun e w' => e = .returned (.int .i64 ((x * (x - 1)) % (p : Int))) ∧ ∃ m, w' = w.drewN m := by
  have h3 := H.h3
  have h4 := H.h4
  have HEM : Hid (∀ a : Int, I64 (a % (p : Int))) := fun a => by have := emod_bounds a p H.h3; have := H.h4; unfold I64; omega
  obtain ⟨c0, c1, c2, c3, c4, c5⟩ := hV.cells
  have hpc := hV.fld
  have QP : Hid (∀ nn, (w.drewN nn).cell? ⟨b, 0, none⟩ = some (.int .i64 p)) := fun nn => hpc
  have HE : Hid ((x * (x - 1)) % (p : Int) = ((x * ((x - (1 : Int)) % (p : Int))) % (p : Int))) := by
    unfold Hid
    simp only [em_mul2]
  obtain ⟨R, hR⟩ : ∃ R, R = (x * (x - 1)) % (p : Int) := ⟨_, rfl⟩
  rw [← hR] at HE ⊢
  clear hR
  have HC0 : Hid (∀ W : World, W.cell? ⟨b, 0, none⟩ = some (.int .i64 p) → Calls Tryz.prog 85 #[.pointer (some ⟨b, 0, none⟩), .int .i64 x, .int .i64 (1 : Int)] W fun e w' => e = .returned (.int .i64 ((x - (1 : Int)) % (p : Int))) ∧ w' = W) := fun W h => sub_any p b _ _ W h3 h4 h hx.1 hx.2 (show I64 1 by unfold I64; decide).1 (show I64 1 by unfold I64; decide).2
  have HC1 : Hid (∀ W : World, W.cell? ⟨b, 0, none⟩ = some (.int .i64 p) → Calls Tryz.prog 87 #[.pointer (some ⟨b, 0, none⟩), .int .i64 x, .int .i64 ((x - (1 : Int)) % (p : Int))] W fun e w' => e = .returned (.int .i64 ((x * ((x - (1 : Int)) % (p : Int))) % (p : Int))) ∧ w' = W) := fun W h => mul_any p b _ _ W h3 h4 h hx.1 hx.2 (HEM.out _).1 (HEM.out _).2
  clear HEM H hV
  generalize ((x * ((x - (1 : Int)) % (p : Int))) % (p : Int)) = t2 at *
  generalize ((x - (1 : Int)) % (p : Int)) = t1 at *
  generalize L.length = nL at *
  go_enter Tryz.func62, Tryz.ntmps62
  go_wp2_with fail
  go_quiet (first
    | (go_at_call 85; first | with_reducible exact Calls.quiet_of_same (HC0.out _ (QP.out _)))
    | (go_at_call 87; first | with_reducible exact Calls.quiet_of_same (HC1.out _ (QP.out _))))
  go_wp2_with fail
  go_ret
  exact ⟨by have h := HE.out; subst h; rfl, _, rfl⟩

end Go.Proofs.YtdpdmgmeieijaaaGreatDoor

namespace Go.Proofs.YtdpdmgmeieijaaaGreatDoor
open Go.RowKit Go.Maps

theorem mcells_all (p b : Nat) (op ia ib ic fp ap : Int) (w : World) (h3 : 3 ≤ p) (h4 : p ≤ 2147483647) (hp : w.cell? ⟨b, 0, none⟩ = some (.int .i64 p)) (hb : I64 ia ∧ I64 ib ∧ I64 ic ∧ I64 fp ∧ I64 ap) :
    Calls Tryz.prog 78 #[.pointer (some ⟨b, 0, none⟩), .agg #[.int .i64 op, .int .i64 ia, .int .i64 ib, .int .i64 ic], .int .i64 fp, .int .i64 ap] w (CeR p op ia ib ic fp ap w) := by
  by_cases g0 : op = 0; · subst g0; exact pcells_0 p b ia ib ic fp ap w h3 h4 hp hb
  by_cases g1 : op = 1; · subst g1; exact pcells_1 p b ia ib ic fp ap w h3 h4 hp hb
  by_cases g2 : op = 2; · subst g2; exact pcells_2 p b ia ib ic fp ap w h3 h4 hp hb
  by_cases g3 : op = 3; · subst g3; exact pcells_3 p b ia ib ic fp ap w h3 h4 hp hb
  by_cases g4 : op = 4; · subst g4; exact pcells_4 p b ia ib ic fp ap w h3 h4 hp hb
  by_cases g5 : op = 5; · subst g5; exact pcells_5 p b ia ib ic fp ap w h3 h4 hp hb
  by_cases g6 : op = 6; · subst g6; exact pcells_6 p b ia ib ic fp ap w h3 h4 hp hb
  by_cases g7 : op = 7; · subst g7; exact pcells_7 p b ia ib ic fp ap w h3 h4 hp hb
  by_cases g8 : op = 8; · subst g8; exact pcells_8 p b ia ib ic fp ap w hp
  by_cases g9 : op = 9; · subst g9; exact pcells_9 p b ia ib ic fp ap w h3 h4 hp hb
  by_cases g10 : op = 10; · subst g10; exact pcells_10 p b ia ib ic fp ap w h3 h4 hp hb
  by_cases g11 : op = 11; · subst g11; exact pcells_11 p b ia ib ic fp ap w h3 h4 hp hb
  by_cases g12 : op = 12; · subst g12; exact pcells_12 p b ia ib ic fp ap w h3 h4 hp hb
  by_cases g13 : op = 13; · subst g13; exact pcells_13 p b ia ib ic fp ap w h3 h4 hp hb
  exact pcells_x p b op ia ib ic fp ap w hp ⟨g0, g1, g2, g3, g4, g5, g6, g7, g9, g10, g11, g12, g13⟩

theorem iy3_0 (x y z : Int) (w : World) : (Instr.index 64 (.agg #[.int .i64 x, .int .i64 y, .int .i64 z]) (.int .i64 0)).run Tryz.prog w = .ok (.int .i64 x) w := by kernel_rfl
theorem iy3_1 (x y z : Int) (w : World) : (Instr.index 64 (.agg #[.int .i64 x, .int .i64 y, .int .i64 z]) (.int .i64 1)).run Tryz.prog w = .ok (.int .i64 y) w := by kernel_rfl
theorem iy3_2 (x y z : Int) (w : World) : (Instr.index 64 (.agg #[.int .i64 x, .int .i64 y, .int .i64 z]) (.int .i64 2)).run Tryz.prog w = .ok (.int .i64 z) w := by kernel_rfl
theorem put3_cell {W : World} {G : Nat} {a b c : Value} {p : Addr} (h : p.block ≠ G) : (((W.setCell ⟨G, 0, none⟩ a).setCell ⟨G, 1, none⟩ b).setCell ⟨G, 2, none⟩ c).cell? p = W.cell? p :=
  World.cell?_of_block (by rw [Below.heap_setCell _ _ _ _ h, Below.heap_setCell _ _ _ _ h, Below.heap_setCell _ _ _ _ h])
theorem hrw0 {p b V : Nat} {L : List InsZ} {size out : Int} {r n : List Int} {aL : Option Addr} {cL g o : Nat} {cr : Nat} {an : Option Addr} {cn : Nat} {w : World} (h : VW p b V L size out r n aL cL (some ⟨g, o, none⟩) cr an cn w) (hl : r.length = 20 + L.length) : w.cell? ⟨g, o, none⟩ = some (.int .i64 (zat r 0)) := by
  obtain ⟨g', o', h1, h2⟩ := h.rowAt hl
  injection h1 with h1
  injection h1 with h1 h3
  subst h1 h3
  exact h2 0 (by omega)
set_option maxRecDepth 100000 in
set_option maxHeartbeats 2000000 in
theorem vcells_any (p b V : Nat) (L : List InsZ) (size out : Int) (r n : List Int) (aL : Option Addr) (cL : Nat) (ar : Option Addr) (cr : Nat) (an : Option Addr) (cn : Nat) (w : World) (H : VF p L size out r n) (hV : VW p b V L size out r n aL cL ar cr an cn w) (op ia ib ic : Int) (hi : I64 ia ∧ I64 ib ∧ I64 ic) :
    Calls Tryz.prog 120 #[.pointer (some ⟨V, 0, none⟩), .agg #[.int .i64 op, .int .i64 ia, .int .i64 ib, .int .i64 ic]] w fun e w' => e = .returned (.agg #[.int .i64 (tvC p r 0 ⟨op, ia, ib, ic⟩), .int .i64 (tvC p r 1 ⟨op, ia, ib, ic⟩), .int .i64 (tvC p r 2 ⟨op, ia, ib, ic⟩)]) ∧ Below w.heap.size w w' := by
  have h3 := H.h3
  have h4 := H.h4
  obtain ⟨V1, hV1⟩ : ∃ V1, V1 = w.alloc (.cells #[.int .i64 op, .int .i64 ia, .int .i64 ib, .int .i64 ic] 45) := ⟨_, rfl⟩
  obtain ⟨W0, hW0⟩ : ∃ W0, W0 = V1.alloc (.cells #[.int .i64 0, .int .i64 0, .int .i64 0] 64) := ⟨_, rfl⟩
  have b1 : Below w.heap.size w V1 := by rw [hV1]; exact (Below.refl _ _).alloc (Nat.le_refl _) _
  have hz1 : V1.heap.size = w.heap.size + 1 := by rw [hV1]; simp
  have b2 : Below V1.heap.size V1 W0 := by rw [hW0]; exact (Below.refl _ _).alloc (Nat.le_refl _) _
  have hb0 := b1.trans (b2.mono b1.size)
  have hs0 : W0.heap[w.heap.size]? = some (.cells #[.int .i64 op, .int .i64 ia, .int .i64 ib, .int .i64 ic] 45 (0, 0)) := (b2.block _ (by omega)).trans (by rw [hV1]; exact heap_alloc_new w _)
  have hr0 : W0.heap[w.heap.size + 1]? = some (.cells #[.int .i64 0, .int .i64 0, .int .i64 0] 64 (0, 0)) := by rw [hW0, ← hz1]; exact heap_alloc_new V1 _
  obtain ⟨I, hI⟩ : ∃ I, I = w.heap.size := ⟨_, rfl⟩
  obtain ⟨G, hG⟩ : ∃ G, G = w.heap.size + 1 := ⟨_, rfl⟩
  rw [← hI] at hs0
  rw [← hG] at hr0
  have HV0 := hid (hV.below hb0)
  have HB0 := hid hb0
  have HGW : Hid (w.heap.size ≤ G) := by unfold Hid; omega
  obtain ⟨br, orr, har, hrw⟩ := HV0.out.rowAt H.hr
  subst har
  have HK : Hid (∀ W, Below W0.heap.size W0 W → (W.cell? ⟨V, 0, none⟩ = some (.pointer (some ⟨b, 0, none⟩)) ∧ W.cell? ⟨V, 4, none⟩ = some (.slice (some ⟨br, orr, none⟩) r.length cr) ∧ W.cell? ⟨br, orr, none⟩ = some (.int .i64 (zat r 0)) ∧ W.cell? ⟨br, orr + 1, none⟩ = some (.int .i64 (zat r 1)) ∧ W.cell? ⟨I, 0, none⟩ = some (.int .i64 op) ∧ W.cell? ⟨I, 1, none⟩ = some (.int .i64 ia) ∧ W.cell? ⟨I, 2, none⟩ = some (.int .i64 ib) ∧ W.cell? ⟨I, 3, none⟩ = some (.int .i64 ic))) := fun W h => by
    obtain ⟨c0, _, _, _, c4, _⟩ := (HV0.out.below h).cells
    have hi2 := (h.block I (Array.getElem?_eq_some_iff.1 hs0).1).trans hs0
    have q0 := hrw 0 (by omega)
    have q1 := hrw 1 (by omega)
    exact ⟨c0, c4, (h.cell (p := ⟨br, orr, none⟩) (World.block_lt_of_cell? _ _ q0)).trans q0, (h.cell (p := ⟨br, orr + 1, none⟩) (World.block_lt_of_cell? _ _ q1)).trans q1, by simp [World.cell?, hi2], by simp [World.cell?, hi2], by simp [World.cell?, hi2], by simp [World.cell?, hi2]⟩
  have HK2 : Hid (∀ (W : World) (a b' c' : Value), Below W0.heap.size W0 W → ((((W.setCell ⟨G, 0, none⟩ a).setCell ⟨G, 1, none⟩ b').setCell ⟨G, 2, none⟩ c').cell? ⟨V, 0, none⟩ = some (.pointer (some ⟨b, 0, none⟩)) ∧ (((W.setCell ⟨G, 0, none⟩ a).setCell ⟨G, 1, none⟩ b').setCell ⟨G, 2, none⟩ c').cell? ⟨V, 4, none⟩ = some (.slice (some ⟨br, orr, none⟩) r.length cr) ∧ (((W.setCell ⟨G, 0, none⟩ a).setCell ⟨G, 1, none⟩ b').setCell ⟨G, 2, none⟩ c').cell? ⟨br, orr, none⟩ = some (.int .i64 (zat r 0)) ∧ (((W.setCell ⟨G, 0, none⟩ a).setCell ⟨G, 1, none⟩ b').setCell ⟨G, 2, none⟩ c').cell? ⟨br, orr + 1, none⟩ = some (.int .i64 (zat r 1)) ∧ (((W.setCell ⟨G, 0, none⟩ a).setCell ⟨G, 1, none⟩ b').setCell ⟨G, 2, none⟩ c').cell? ⟨I, 0, none⟩ = some (.int .i64 op) ∧ (((W.setCell ⟨G, 0, none⟩ a).setCell ⟨G, 1, none⟩ b').setCell ⟨G, 2, none⟩ c').cell? ⟨I, 1, none⟩ = some (.int .i64 ia) ∧ (((W.setCell ⟨G, 0, none⟩ a).setCell ⟨G, 1, none⟩ b').setCell ⟨G, 2, none⟩ c').cell? ⟨I, 2, none⟩ = some (.int .i64 ib) ∧ (((W.setCell ⟨G, 0, none⟩ a).setCell ⟨G, 1, none⟩ b').setCell ⟨G, 2, none⟩ c').cell? ⟨I, 3, none⟩ = some (.int .i64 ic))) := fun W a b' c' h => by
    have hvl : V ≠ G := by have := (Array.getElem?_eq_some_iff.1 hV.blk).1; omega
    have hrl : br ≠ G := by
      have h9 : br < w.heap.size := World.block_lt_of_cell? _ _ (hrw0 hV H.hr)
      omega
    have hil : I ≠ G := by omega
    simp only [put3_cell (p := ⟨V, 0, none⟩) hvl, put3_cell (p := ⟨V, 4, none⟩) hvl, put3_cell (p := ⟨br, orr, none⟩) hrl, put3_cell (p := ⟨br, orr + 1, none⟩) hrl, put3_cell (p := ⟨I, 0, none⟩) hil, put3_cell (p := ⟨I, 1, none⟩) hil, put3_cell (p := ⟨I, 2, none⟩) hil, put3_cell (p := ⟨I, 3, none⟩) hil]
    exact HK.out W h
  have HCL : Hid (∀ W, Below W0.heap.size W0 W → Calls Tryz.prog 78 #[.pointer (some ⟨b, 0, none⟩), .agg #[.int .i64 op, .int .i64 ia, .int .i64 ib, .int .i64 ic], .int .i64 (zat r 0), .int .i64 (zat r 1)] W fun e w' => e = .returned (.agg #[.int .i64 (tvC p r 0 ⟨op, ia, ib, ic⟩), .int .i64 (tvC p r 1 ⟨op, ia, ib, ic⟩), .int .i64 (tvC p r 2 ⟨op, ia, ib, ic⟩)]) ∧ Below W0.heap.size W0 w') := fun W h => by
    refine (mcells_all p b op ia ib ic (zat r 0) (zat r 1) W h3 h4 (HV0.out.below h).fld ⟨hi.1, hi.2.1, hi.2.2, H.fr 0, H.fr 1⟩).mono ?_
    rintro e w' ⟨rfl, hb⟩
    exact ⟨rfl, h.trans (hb.mono h.size)⟩
  have HR3 : Hid (∀ W, Below W0.heap.size W0 W → W.heap[G]? = some (.cells #[.int .i64 0, .int .i64 0, .int .i64 0] 64 (0, 0))) := fun W h => (h.block G (Array.getElem?_eq_some_iff.1 hr0).1).trans hr0
  have l0 : (0 : Int) < (r.length : Int) := by have := H.hr; omega
  have l1 : (1 : Int) < (r.length : Int) := by have := H.hr; omega
  have l0' : 0 < r.length := by have := H.hr; omega
  have l1' : 1 < r.length := by have := H.hr; omega
  have hdd : Below W0.heap.size W0 W0.drew := (Below.refl _ _).drew
  have hd0 : Below W0.heap.size W0 W0 := Below.refl _ _
  generalize tvC p r 0 ⟨op, ia, ib, ic⟩ = y0 at *
  generalize tvC p r 1 ⟨op, ia, ib, ic⟩ = y1 at *
  generalize tvC p r 2 ⟨op, ia, ib, ic⟩ = y2 at *
  generalize zat r 0 = x0 at *
  generalize zat r 1 = x1 at *
  generalize r.length = lr at *
  clear H hV b1 b2 hb0 hs0 hr0 hrw hi HV0
  go_enter Tryz.func120, Tryz.ntmps120
  go_wp2_with fail
  rw [← hV1, ← hW0]
  rw [← hG, ← hI]
  clear hV1 hW0 hz1 hG hI
  go_region_held3 (fun W => W.cell? ⟨V, 0, none⟩ = some (.pointer (some ⟨b, 0, none⟩)) ∧ W.cell? ⟨V, 4, none⟩ = some (.slice (some ⟨br, orr, none⟩) lr cr) ∧ W.cell? ⟨br, orr, none⟩ = some (.int .i64 x0) ∧ W.cell? ⟨br, orr + 1, none⟩ = some (.int .i64 x1) ∧ W.cell? ⟨I, 0, none⟩ = some (.int .i64 op) ∧ W.cell? ⟨I, 1, none⟩ = some (.int .i64 ia) ∧ W.cell? ⟨I, 2, none⟩ = some (.int .i64 ib) ∧ W.cell? ⟨I, 3, none⟩ = some (.int .i64 ic)) (first | exact HK.out _ (by assumption) | exact HK2.out _ _ _ _ (by assumption))
    (first | (go_at_call 78; refine (HCL.out _ (by assumption)).mono ?_; rintro e w' ⟨rfl, hb'⟩; have hg := HR3.out _ hb'; have z0 : w'.cell? ⟨G, 0, none⟩ = some (.int .i64 0) := (by simp [World.cell?, hg]); have z1 : w'.cell? ⟨G, 1, none⟩ = some (.int .i64 0) := (by simp [World.cell?, hg]); have z2 : w'.cell? ⟨G, 2, none⟩ = some (.int .i64 0) := (by simp [World.cell?, hg]); have y' : ∀ i, w'.frozen? ⟨G, i, none⟩ = false := (row3_of hg).frozen))
  have HBX := hid (HB0.out.trans (hb'.mono HB0.out.size))
  go_wp2_with fail
  (try simp only [Exit.inBlock, Exit.then])
  refine bodyPost_ret (results_cell_row rfl _ _ G 64 #[.int .i64 y0, .int .i64 y1, .int .i64 y2] (0, 0) _ rfl (put3_heap hg (.int .i64 y0) (.int .i64 y1) (.int .i64 y2)) Tryz.underlying64 rfl (by kernel_rfl)) rfl ?_
  first
    | exact ⟨rfl, put3_below HBX.out HGW.out _ _ _⟩
    | exact ⟨rfl, (put3_below HBX.out HGW.out _ _ _).drew⟩

set_option maxRecDepth 100000 in
set_option maxHeartbeats 2000000 in
theorem vfirstCell_any (p b V : Nat) (L : List InsZ) (size out : Int) (r n : List Int) (aL : Option Addr) (cL : Nat) (ar : Option Addr) (cr : Nat) (an : Option Addr) (cn : Nat) (w : World) (H : VF p L size out r n) (hV : VW p b V L size out r n aL cL ar cr an cn w) (k : Nat) (op ia ib ic : Int) (hi : I64 ia ∧ I64 ib ∧ I64 ic) :
    Calls Tryz.prog 90 #[.pointer (some ⟨V, 0, none⟩), .int .i64 (k : Int), .agg #[.int .i64 op, .int .i64 ia, .int .i64 ib, .int .i64 ic]] w fun e w' => e = .returned (.int .i64 (tvC p r 0 ⟨op, ia, ib, ic⟩)) ∧ Below w.heap.size w w' := by
  obtain ⟨W0, hW0⟩ : ∃ W0, W0 = w.alloc (.cells #[.int .i64 op, .int .i64 ia, .int .i64 ib, .int .i64 ic] 45) := ⟨_, rfl⟩
  have hb0 : Below w.heap.size w W0 := by rw [hW0]; exact (Below.refl _ _).alloc (Nat.le_refl _) _
  have HC := hid (vcells_any p b V L size out r n aL cL ar cr an cn W0 H (hV.below hb0) op ia ib ic hi)
  have HB0 := hid hb0
  generalize tvC p r 0 ⟨op, ia, ib, ic⟩ = y0 at *
  generalize tvC p r 1 ⟨op, ia, ib, ic⟩ = y1 at *
  generalize tvC p r 2 ⟨op, ia, ib, ic⟩ = y2 at *
  have hx0 := iy3_0 y0 y1 y2
  have hx1 := iy3_1 y0 y1 y2
  have hx2 := iy3_2 y0 y1 y2
  clear H hV hb0 hi
  go_enter Tryz.func90, Tryz.ntmps90
  go_wp2_with fail
  rw [← hW0]
  clear hW0
  refine HC.out.mono ?_
  rintro e w1 ⟨rfl, hb1⟩
  have HB1 := hid (HB0.out.trans (hb1.mono HB0.out.size))
  clear hb1 HC
  go_wp2_with fail
  go_ret
  exact ⟨rfl, HB1.out⟩

set_option maxRecDepth 100000 in
set_option maxHeartbeats 2000000 in
theorem vsecondCell_any (p b V : Nat) (L : List InsZ) (size out : Int) (r n : List Int) (aL : Option Addr) (cL : Nat) (ar : Option Addr) (cr : Nat) (an : Option Addr) (cn : Nat) (w : World) (H : VF p L size out r n) (hV : VW p b V L size out r n aL cL ar cr an cn w) (k : Nat) (op ia ib ic : Int) (hi : I64 ia ∧ I64 ib ∧ I64 ic) :
    Calls Tryz.prog 91 #[.pointer (some ⟨V, 0, none⟩), .int .i64 (k : Int), .agg #[.int .i64 op, .int .i64 ia, .int .i64 ib, .int .i64 ic]] w fun e w' => e = .returned (.int .i64 (tvC p r 1 ⟨op, ia, ib, ic⟩)) ∧ Below w.heap.size w w' := by
  obtain ⟨W0, hW0⟩ : ∃ W0, W0 = w.alloc (.cells #[.int .i64 op, .int .i64 ia, .int .i64 ib, .int .i64 ic] 45) := ⟨_, rfl⟩
  have hb0 : Below w.heap.size w W0 := by rw [hW0]; exact (Below.refl _ _).alloc (Nat.le_refl _) _
  have HC := hid (vcells_any p b V L size out r n aL cL ar cr an cn W0 H (hV.below hb0) op ia ib ic hi)
  have HB0 := hid hb0
  generalize tvC p r 0 ⟨op, ia, ib, ic⟩ = y0 at *
  generalize tvC p r 1 ⟨op, ia, ib, ic⟩ = y1 at *
  generalize tvC p r 2 ⟨op, ia, ib, ic⟩ = y2 at *
  have hx0 := iy3_0 y0 y1 y2
  have hx1 := iy3_1 y0 y1 y2
  have hx2 := iy3_2 y0 y1 y2
  clear H hV hb0 hi
  go_enter Tryz.func91, Tryz.ntmps91
  go_wp2_with fail
  rw [← hW0]
  clear hW0
  refine HC.out.mono ?_
  rintro e w1 ⟨rfl, hb1⟩
  have HB1 := hid (HB0.out.trans (hb1.mono HB0.out.size))
  clear hb1 HC
  go_wp2_with fail
  go_ret
  exact ⟨rfl, HB1.out⟩

set_option maxRecDepth 100000 in
set_option maxHeartbeats 2000000 in
theorem vthirdCell_any (p b V : Nat) (L : List InsZ) (size out : Int) (r n : List Int) (aL : Option Addr) (cL : Nat) (ar : Option Addr) (cr : Nat) (an : Option Addr) (cn : Nat) (w : World) (H : VF p L size out r n) (hV : VW p b V L size out r n aL cL ar cr an cn w) (k : Nat) (op ia ib ic : Int) (hi : I64 ia ∧ I64 ib ∧ I64 ic) :
    Calls Tryz.prog 92 #[.pointer (some ⟨V, 0, none⟩), .int .i64 (k : Int), .agg #[.int .i64 op, .int .i64 ia, .int .i64 ib, .int .i64 ic]] w fun e w' => e = .returned (.int .i64 (tvC p r 2 ⟨op, ia, ib, ic⟩)) ∧ Below w.heap.size w w' := by
  obtain ⟨W0, hW0⟩ : ∃ W0, W0 = w.alloc (.cells #[.int .i64 op, .int .i64 ia, .int .i64 ib, .int .i64 ic] 45) := ⟨_, rfl⟩
  have hb0 : Below w.heap.size w W0 := by rw [hW0]; exact (Below.refl _ _).alloc (Nat.le_refl _) _
  have HC := hid (vcells_any p b V L size out r n aL cL ar cr an cn W0 H (hV.below hb0) op ia ib ic hi)
  have HB0 := hid hb0
  generalize tvC p r 0 ⟨op, ia, ib, ic⟩ = y0 at *
  generalize tvC p r 1 ⟨op, ia, ib, ic⟩ = y1 at *
  generalize tvC p r 2 ⟨op, ia, ib, ic⟩ = y2 at *
  have hx0 := iy3_0 y0 y1 y2
  have hx1 := iy3_1 y0 y1 y2
  have hx2 := iy3_2 y0 y1 y2
  clear H hV hb0 hi
  go_enter Tryz.func92, Tryz.ntmps92
  go_wp2_with fail
  rw [← hW0]
  clear hW0
  refine HC.out.mono ?_
  rintro e w1 ⟨rfl, hb1⟩
  have HB1 := hid (HB0.out.trans (hb1.mono HB0.out.size))
  clear hb1 HC
  go_wp2_with fail
  go_ret
  exact ⟨rfl, HB1.out⟩

end Go.Proofs.YtdpdmgmeieijaaaGreatDoor
