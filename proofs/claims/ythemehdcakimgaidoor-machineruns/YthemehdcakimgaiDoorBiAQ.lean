/- attestlaw6.copied; what both runs give. MachineRuns: the walk. slices.SortFunc at cells: laid for this program. Package machine: slices.SortFunc at cells. -/
import Derived.Test.YthemehdcakimgaiDoorBiAP
import Derived.Test.YthemehdcakimgaiDoorMrnB
import Derived.Test.YthemehdcakimgaiDoorBiAL
import Derived.Shelf.SlLaysF0
import Derived.Test.YthemehdcakimgaiDoorProg
import Derived.Shelf.SlSortCmp.WholeK
import Derived.Lib.Small
import Derived.Test.YthemehdcakimgaiDoorBiAO
namespace Go.Proofs.YthemehdcakimgaiDoor
open Go.RowKit Go.Maps

theorem row2_of {W : World} {g : Nat} {t : TypeId} {a b : Value} (h : W.heap[g]? = some (.cells #[a, b] t (0, 0))) : W.rowIs g t 2 (fun i => #[a, b].getD i .nilFunc) :=
  ⟨_, h, rfl, fun i hi => by
    have : i = 0 ∨ i = 1 := by omega
    rcases this with rfl | rfl <;> rfl⟩
theorem row2_arr {W : World} {g : Nat} {t : TypeId} {f : Nat → Value} (h : W.rowIs g t 2 f) : W.heap[g]? = some (.cells #[f 0, f 1] t (0, 0)) := by
  obtain ⟨c, hb, hs, hc⟩ := h
  rw [hb]
  congr 2
  apply Array.ext
  · simpa using hs
  · intro i h1 h2
    have h4 : i < 2 := by simpa using h2
    have := hc i h4
    rw [Array.getElem?_eq_getElem h1] at this
    injection this with this
    rw [this]
    have : i = 0 ∨ i = 1 := by omega
    rcases this with rfl | rfl <;> rfl
theorem put2_heap {W : World} {g : Nat} {t : TypeId} {z0 z1 : Value} (h : W.heap[g]? = some (.cells #[z0, z1] t (0, 0))) (a b : Value) : ((W.setCell ⟨g, 0, none⟩ a).setCell ⟨g, 1, none⟩ b).heap[g]? = some (.cells #[a, b] t (0, 0)) := by
  have := row2_arr (((row2_of h).set 0 a).set 1 b)
  simpa using this
theorem put2_below {N : Nat} {w W : World} {g : Nat} (e : Below N w W) (hg : N ≤ g) (a b : Value) : Below N w ((W.setCell ⟨g, 0, none⟩ a).setCell ⟨g, 1, none⟩ b) :=
  ⟨e.os, e.tape, e.output, by simpa [World.setCell] using e.size, fun k hk => by
    rw [Below.heap_setCell _ _ _ _ (by show k ≠ g; omega), Below.heap_setCell _ _ _ _ (by show k ≠ g; omega)]
    exact e.block k hk⟩
theorem lstI_put2 {W : World} {n0 g : Nat} {a : Option Addr} {cap : Nat} {L : List InsZ} (x y : Value) (h : LstI n0 W a cap L) (hg : ∀ b o, a = some ⟨b, o, none⟩ → b ≠ g) : LstI n0 ((W.setCell ⟨g, 0, none⟩ x).setCell ⟨g, 1, none⟩ y) a cap L := by
  refine ⟨fun k hk => ?_, h.room, h.nil⟩
  obtain ⟨b, o, h1, h2, c0, c1, c2, c3⟩ := h.row k hk
  have hne := hg b o h1
  have hc : ∀ i v, W.cell? ⟨b, i, none⟩ = some v → ((W.setCell ⟨g, 0, none⟩ x).setCell ⟨g, 1, none⟩ y).cell? ⟨b, i, none⟩ = some v := fun i v hv => by
    unfold World.cell? at hv ⊢
    rw [Below.heap_setCell _ _ _ _ (by show b ≠ g; omega), Below.heap_setCell _ _ _ _ (by show b ≠ g; omega)]
    exact hv
  exact ⟨b, o, h1, h2, hc _ _ c0, hc _ _ c1, hc _ _ c2, hc _ _ c3⟩

set_option maxRecDepth 100000 in
set_option maxHeartbeats 2000000 in
theorem mcopied_any (size : Int) (aL : Option Addr) (cL : Nat) (L : List InsZ) (w : World) (hn : L.length ≤ 4398046511104) (hl : LstI w.heap.size w aL cL L) :
    Calls Tryd.prog 8 #[.agg #[.int .i64 size, .slice aL L.length cL]] w fun e w' => ∃ a2 c2, e = .returned (.agg #[.int .i64 size, .slice a2 L.length c2]) ∧ LstI w'.heap.size w' a2 c2 L ∧ Below w.heap.size w w' := by
  obtain ⟨V, hV⟩ : ∃ V, V = w.alloc (.cells #[.int .i64 size, .slice aL L.length cL] 24) := ⟨_, rfl⟩
  obtain ⟨W0, hW0⟩ : ∃ W0, W0 = V.alloc (.cells #[.int .i64 0, .slice none 0 0] 24) := ⟨_, rfl⟩
  have b1 : Below w.heap.size w V := by rw [hV]; exact (Below.refl _ _).alloc (Nat.le_refl _) _
  have hs : V.heap.size = w.heap.size + 1 := by rw [hV]; simp
  have b2 : Below V.heap.size V W0 := by rw [hW0]; exact (Below.refl _ _).alloc (Nat.le_refl _) _
  have hsz : W0.heap.size = w.heap.size + 2 := by rw [hW0]; simp; omega
  have HB0 := hid (b1.trans (b2.mono b1.size))
  have hr1 : W0.heap[w.heap.size]? = some (.cells #[.int .i64 size, .slice aL L.length cL] 24 (0, 0)) := (b2.block _ (by omega)).trans (by rw [hV]; exact heap_alloc_new w _)
  have hr2 : W0.heap[w.heap.size + 1]? = some (.cells #[.int .i64 0, .slice none 0 0] 24 (0, 0)) := by rw [hW0, ← hs]; exact heap_alloc_new V _
  have HR1 := hid hr1
  have HR2 := hid hr2
  have HSZ := hid hsz
  have HL0 : Hid (LstI W0.heap.size W0 aL cL L) := (hl.below HB0.out).mono HB0.out.size
  have HN := hid hn
  have x1 : ∀ o, (W0.alloc o).cell? ⟨w.heap.size, 1, none⟩ = some (.slice aL L.length cL) := fun o => (((Below.refl W0.heap.size W0).alloc (Nat.le_refl _) o).cell (p := ⟨w.heap.size, 1, none⟩) (by show w.heap.size < W0.heap.size; omega)).trans (by simp [World.cell?, hr1])
  rw [hV] at hW0
  clear b1 hs b2 hr1 hr2 hV hl hn hsz
  replace hW0 := hW0.symm
  have hsw : W0.heap.size = w.heap.size + 1 + 1 := HSZ.out
  go_enter Tryd.func8, Tryd.ntmps8
  go_wp2_with (at_builtin; refine wpList_copyI W0 _ HSZ.out rfl _ _ rfl rfl aL cL L rfl HN.out HL0.out ?_; intro a2 c2 w2 hl2 hb2 hlt2 hge; have HGE := hid hge; clear hge; clear x1 hsw; have HL2 := hid hl2; have HB2 := hid hb2; have HQ1 := hid ((hb2.block w.heap.size (by have := HSZ.out; omega)).trans HR1.out); have HQ2 := hid ((hb2.block (w.heap.size + 1) (by have := HSZ.out; omega)).trans HR2.out); have y0 : w2.cell? ⟨w.heap.size, 0, none⟩ = some (.int .i64 size) := (by simp [World.cell?, HQ1.out]); have z0 : w2.cell? ⟨w.heap.size + 1, 0, none⟩ = some (.int .i64 0) := (by simp [World.cell?, HQ2.out]); have z1 : w2.cell? ⟨w.heap.size + 1, 1, none⟩ = some (.slice none 0 0) := (by simp [World.cell?, HQ2.out]); have df := (row2_of HQ2.out).frozen; clear hl2 hb2)
  have HP2 := hid (put2_heap HQ2.out (.int .i64 size) (.slice a2 L.length c2))
  refine bodyPost_ret (results_cell_row rfl _ _ (w.heap.size + 1) 24 #[.int .i64 size, .slice a2 L.length c2] (0, 0) _ rfl HP2.out Tryd.underlying24 rfl (by kernel_rfl)) rfl ?_
  have hb := HB0.out.trans (HB2.out.mono HB0.out.size)
  refine ⟨a2, c2, rfl, ?_, put2_below hb (Nat.le_succ _) _ _⟩
  have h5 := lstI_put2 (g := w.heap.size + 1) (.int .i64 size) (.slice a2 L.length c2) HL2.out (fun b o e => by have := HGE.out b o e; have := HSZ.out; omega)
  exact h5.mono (by simp [World.setCell])
/-- what the program's Run gives, the document's gives -/
theorem runs_both {p : Nat} {size limit : Int} {L : List InsZ} {w1 w2 : World} {e : Ending} (h : RuR p size L limit w1 e w2) :
    ∃ (o k : Int) (v : Value) (l' : List (Int × Int)) (z : Int), e = .returned (.tuple #[.agg #[.int .i64 o, .int .i64 k, v], errV z]) ∧ CelR w1.heap.size w2 v l' ∧ Below w1.heap.size w1 w2 ∧
      ∀ W e' W', RfR p size L limit W e' W' → ∃ v2, e' = .returned (.tuple #[.agg #[.int .i64 o, .int .i64 k, v2], .int .i64 z]) ∧ CelR W.heap.size W' v2 l' ∧ Below W.heap.size W W' := by
  obtain ⟨hb, h2⟩ := h
  by_cases hz : fz6 (p : Int) size L.length limit ≠ 0
  · rw [if_pos hz] at h2
    refine ⟨0, 0, _, [], _, h2, World.ownsRow_nil _ _ _ _, hb, fun W e' W' h' => ?_⟩
    obtain ⟨hb', h3⟩ := h'
    rw [if_pos hz] at h3
    exact ⟨_, h3, World.ownsRow_nil _ _ _ _, hb'⟩
  · rw [if_neg hz] at h2
    cases hX : mwalk p size L limit.toNat with
    | bad z =>
      rw [hX] at h2
      refine ⟨0, 0, _, [], z, h2, World.ownsRow_nil _ _ _ _, hb, fun W e' W' h' => ?_⟩
      obtain ⟨hb', h3⟩ := h'
      rw [if_neg hz, hX] at h3
      exact ⟨_, h3, World.ownsRow_nil _ _ _ _, hb'⟩
    | good l cs =>
      rw [hX] at h2
      obtain ⟨v, l', he, hc, ha⟩ := h2
      refine ⟨_, _, v, l', 0, he, hc, hb, fun W e' W' h' => ?_⟩
      obtain ⟨hb', h3⟩ := h'
      rw [if_neg hz, hX] at h3
      obtain ⟨v2, l2, he2, hc2, ha2⟩ := h3
      obtain rfl := ha2.unique ha
      exact ⟨v2, he2, hc2, hb'⟩

end Go.Proofs.YthemehdcakimgaiDoor

namespace Go.Proofs.YthemehdcakimgaiDoor
open Go.RowKit Go.Maps

set_option maxRecDepth 100000 in
set_option maxHeartbeats 4000000 in
/-- where there is a field -/
theorem mruns_yes (SO : SrtAs) (q : Nat) (size limit : Int) (aL : Option Addr) (cL : Nat) (L : List InsZ) (w : World) (hL : Laid w) (h3 : 3 ≤ q) (h4 : q ≤ 2147483647) (hpr : Num.Prime q) (hn : L.length ≤ 4398046511104) (hl : LstI w.heap.size w aL cL L) (hIB : InsB L) :
    Calls Tryd.prog 3 #[.int .i64 q, .agg #[.int .i64 size, .slice aL L.length cL], .int .i64 limit] w fun e w' => e = .returned (.bool true) ∧ Below w.heap.size w w' := by
  obtain ⟨W0, hW0⟩ : ∃ W0, W0 = w.alloc (.cells #[.int .i64 size, .slice aL L.length cL] 24) := ⟨_, rfl⟩
  have hb0 : Below w.heap.size w W0 := by rw [hW0]; exact (Below.refl _ _).alloc (Nat.le_refl _) _
  have HC0 : Hid (W0.heap[w.heap.size]? = some (.cells #[.int .i64 size, .slice aL L.length cL] 24 (0, 0))) := by unfold Hid; rw [hW0]; exact heap_alloc_new w _
  have HB0 := hid hb0
  have HF := hid (field_yes q W0 h3 h4 hpr)
  have HCP := hid (fun (W : World) (hb : Below w.heap.size w W) => mcopied_any size aL cL L W hn ((hl.below hb).mono hb.size))
  have HRW := hid (fun (b : Nat) (a2 : Option Addr) (c2 : Nat) (W : World) (hlW : LstI W.heap.size W a2 c2 L) (hc : W.cell? ⟨b, 0, none⟩ = some (.int .i64 q)) => prun_any SO q b size limit a2 c2 L W h3 h4 hpr hc (by omega) hlW hIB)
  have HRF := hid (fun (W : World) (hb : Below w.heap.size w W) => rrun_any q size limit aL cL L W h3 h4 (by omega) ((hl.below hb).mono hb.size) hIB)
  have HBO := hid (fun (w1 w2 : World) (e : Ending) (h : RuR q size L limit w1 e w2) => runs_both h)
  have HAL := hid (fun (a1 : Option Addr) (d1 : Nat) (W : World) (hb : Below w.heap.size w W) (h1 : LstI W.heap.size W a1 d1 L) => alike_same size a1 aL d1 cL L W (by omega) h1 ((hl.below hb).mono hb.size))
  have HLD := hid hL
  obtain ⟨nL, hnL⟩ : ∃ nL, nL = L.length := ⟨_, rfl⟩
  rw [← hnL] at HC0 hW0 HCP HRW HRF HAL ⊢
  clear hb0 hl hL hIB hpr hn SO hnL
  go_enter Tryd.func3, Tryd.ntmps3
  go_wp2_with fail
  rw [← hW0]
  refine HF.out.mono ?_
  rintro e w1 ⟨rfl, hc1, hb1, hlt1⟩
  have HB1 := hid (HB0.out.trans (hb1.mono HB0.out.size))
  have HC1 := hid ((hb1.block _ (Array.getElem?_eq_some_iff.1 HC0.out).1).trans HC0.out)
  have k0 : w1.cell? ⟨w.heap.size, 0, none⟩ = some (.int .i64 size) := by simp [World.cell?, HC1.out]
  have k1 : w1.cell? ⟨w.heap.size, 1, none⟩ = some (.slice aL nL cL) := by simp [World.cell?, HC1.out]
  have HK1 := hid hc1
  clear hb1 HB0 HC0 HF hW0 hc1 hlt1
  go_wp2_with fail
  refine (HCP.out w1 HB1.out).mono ?_
  rintro e w2 ⟨a2, c2, rfl, hl2, hb2⟩
  have HB2 := hid (HB1.out.trans (hb2.mono HB1.out.size))
  have HC2 := hid ((hb2.block _ (Array.getElem?_eq_some_iff.1 HC1.out).1).trans HC1.out)
  have HK2 := hid ((hb2.cell (p := ⟨W0.heap.size, 0, none⟩) (World.block_lt_of_cell? _ _ HK1.out)).trans HK1.out)
  have HL2 := hid hl2
  obtain ⟨W2, hW2⟩ : ∃ W2, W2 = w2.alloc (.cells #[.int .i64 size, .slice a2 nL c2] 24) := ⟨_, rfl⟩
  have hbb : Below w2.heap.size w2 W2 := by rw [hW2]; exact (Below.refl _ _).alloc (Nat.le_refl _) _
  have HO3 : Hid (W2.heap[w2.heap.size]? = some (.cells #[.int .i64 size, .slice a2 nL c2] 24 (0, 0))) := by unfold Hid; rw [hW2]; exact heap_alloc_new w2 _
  have HB3 := hid (HB2.out.trans (hbb.mono HB2.out.size))
  have HC3 := hid ((hbb.block _ (Array.getElem?_eq_some_iff.1 HC2.out).1).trans HC2.out)
  have HK3 := hid ((hbb.cell (p := ⟨W0.heap.size, 0, none⟩) (World.block_lt_of_cell? _ _ HK2.out)).trans HK2.out)
  have HL3 : Hid (LstI W2.heap.size W2 a2 c2 L) := (HL2.out.below hbb).mono hbb.size
  clear hb2 hl2 HB1 HC1 HK1 k0 k1 HCP hbb HB2 HC2 HK2 HL2
  have j0 : W2.cell? ⟨w2.heap.size, 0, none⟩ = some (.int .i64 size) := by simp [World.cell?, HO3.out]
  have j1 : W2.cell? ⟨w2.heap.size, 1, none⟩ = some (.slice a2 nL c2) := by simp [World.cell?, HO3.out]
  replace hW2 := hW2.symm
  go_wp2_with fail
  clear hW2 j0 j1
  refine (HRW.out W0.heap.size a2 c2 W2 HL3.out HK3.out).mono ?_
  intro e w4 hr4
  obtain ⟨o, k, v, l', z, rfl, hc4, hb4, hfor⟩ := HBO.out _ _ _ hr4
  obtain ⟨a4, c4, rfl⟩ := hc4.form
  have HFO := hid hfor
  have HCL4 := hid hc4
  have HB4 := hid (HB3.out.trans (hb4.mono HB3.out.size))
  have HC4 := hid ((hb4.block _ (Array.getElem?_eq_some_iff.1 HC3.out).1).trans HC3.out)
  have HO4 := hid ((hb4.block _ (Array.getElem?_eq_some_iff.1 HO3.out).1).trans HO3.out)
  have HL4 : Hid (LstI w4.heap.size w4 a2 c2 L) := (HL3.out.below hb4).mono hb4.size
  obtain ⟨n4, hn4⟩ : ∃ n4, n4 = l'.length := ⟨_, rfl⟩
  have HN4 := hid hn4
  rw [← hn4] at HCL4 ⊢
  clear hr4 hfor hc4 hb4 hn4 HB3 HC3 HO3 HL3 HK3 HRW HBO
  obtain ⟨W4, hW4⟩ : ∃ W4, W4 = w4.alloc (.cells #[.int .i64 o, .int .i64 k, .slice a4 n4 c4] 31) := ⟨_, rfl⟩
  have hbb : Below w4.heap.size w4 W4 := by rw [hW4]; exact (Below.refl _ _).alloc (Nat.le_refl _) _
  have HA5 : Hid (W4.heap[w4.heap.size]? = some (.cells #[.int .i64 o, .int .i64 k, .slice a4 n4 c4] 31 (0, 0))) := by unfold Hid; rw [hW4]; exact heap_alloc_new w4 _
  have HB5 := hid (HB4.out.trans (hbb.mono HB4.out.size))
  have HC5 := hid ((hbb.block _ (Array.getElem?_eq_some_iff.1 HC4.out).1).trans HC4.out)
  have HO5 := hid ((hbb.block _ (Array.getElem?_eq_some_iff.1 HO4.out).1).trans HO4.out)
  have HL5 : Hid (LstI W4.heap.size W4 a2 c2 L) := (HL4.out.below hbb).mono hbb.size
  have HCL5 := hid (HCL4.out.belowM hbb)
  have k0 : W4.cell? ⟨w.heap.size, 0, none⟩ = some (.int .i64 size) := by simp [World.cell?, HC5.out]
  have k1 : W4.cell? ⟨w.heap.size, 1, none⟩ = some (.slice aL nL cL) := by simp [World.cell?, HC5.out]
  clear hbb HB4 HC4 HO4 HL4 HCL4
  replace hW4 := hW4.symm
  go_wp2_with fail
  clear hW4 k0 k1
  refine (HRF.out W4 HB5.out).mono ?_
  intro e w6 hr6
  obtain ⟨v6, rfl, hc6, hb6⟩ := HFO.out _ _ _ hr6
  obtain ⟨a6, c6, rfl⟩ := hc6.form
  have HCL6 := hid hc6
  rw [← HN4.out] at HCL6 ⊢
  have HB6 := hid (HB5.out.trans (hb6.mono HB5.out.size))
  have HC6 := hid ((hb6.block _ (Array.getElem?_eq_some_iff.1 HC5.out).1).trans HC5.out)
  have HO6 := hid ((hb6.block _ (Array.getElem?_eq_some_iff.1 HO5.out).1).trans HO5.out)
  have HA6 := hid ((hb6.block _ (Array.getElem?_eq_some_iff.1 HA5.out).1).trans HA5.out)
  have HL6 : Hid (LstI w6.heap.size w6 a2 c2 L) := (HL5.out.below hb6).mono hb6.size
  have HCK6 := hid (HCL5.out.belowM hb6)
  clear hr6 hc6 hb6 HFO HRF HB5 HC5 HO5 HA5 HL5 HCL5
  obtain ⟨W6, hW6⟩ : ∃ W6, W6 = w6.alloc (.cells #[.int .i64 o, .int .i64 k, .slice a6 n4 c6] 31) := ⟨_, rfl⟩
  have hbb : Below w6.heap.size w6 W6 := by rw [hW6]; exact (Below.refl _ _).alloc (Nat.le_refl _) _
  have HD7 : Hid (W6.heap[w6.heap.size]? = some (.cells #[.int .i64 o, .int .i64 k, .slice a6 n4 c6] 31 (0, 0))) := by unfold Hid; rw [hW6]; exact heap_alloc_new w6 _
  have HB7 := hid (HB6.out.trans (hbb.mono HB6.out.size))
  have HC7 := hid ((hbb.block _ (Array.getElem?_eq_some_iff.1 HC6.out).1).trans HC6.out)
  have HO7 := hid ((hbb.block _ (Array.getElem?_eq_some_iff.1 HO6.out).1).trans HO6.out)
  have HA7 := hid ((hbb.block _ (Array.getElem?_eq_some_iff.1 HA6.out).1).trans HA6.out)
  have HL7 : Hid (LstI W6.heap.size W6 a2 c2 L) := (HL6.out.below hbb).mono hbb.size
  have HCK7 := hid (HCK6.out.belowM hbb)
  have HCL7 := hid (HCL6.out.belowM hbb)
  have HER := hid (error_same z W6 (HLD.out.below HB7.out))
  clear hbb HB6 HC6 HO6 HA6 HL6 HCK6 HCL6
  replace hW6 := hW6.symm
  go_wp2_with fail
  clear hW6
  refine HER.out.mono ?_
  rintro e w8 ⟨rfl, hb8⟩
  have HB8 := hid (HB7.out.trans (hb8.mono HB7.out.size))
  have HC8 := hid ((hb8.block _ (Array.getElem?_eq_some_iff.1 HC7.out).1).trans HC7.out)
  have HO8 := hid ((hb8.block _ (Array.getElem?_eq_some_iff.1 HO7.out).1).trans HO7.out)
  have HA8 := hid ((hb8.block _ (Array.getElem?_eq_some_iff.1 HA7.out).1).trans HA7.out)
  have HD8 := hid ((hb8.block _ (Array.getElem?_eq_some_iff.1 HD7.out).1).trans HD7.out)
  have HL8 : Hid (LstI w8.heap.size w8 a2 c2 L) := (HL7.out.below hb8).mono hb8.size
  have HCK8 := hid (HCK7.out.belowM hb8)
  have HCL8 := hid (HCL7.out.belowM hb8)
  have HRS := hid (rans_same o k _ _ _ _ l' w8 HCK8.out HCL8.out)
  have i2 : w8.cell? ⟨w4.heap.size, 0, none⟩ = some (.int .i64 o) := by simp [World.cell?, HA8.out]
  have i3 : w8.cell? ⟨w4.heap.size, 1, none⟩ = some (.int .i64 k) := by simp [World.cell?, HA8.out]
  have i4 : w8.cell? ⟨w4.heap.size, 2, none⟩ = some (.slice a4 n4 c4) := by simp [World.cell?, HA8.out]
  have i5 : w8.cell? ⟨w6.heap.size, 0, none⟩ = some (.int .i64 o) := by simp [World.cell?, HD8.out]
  have i6 : w8.cell? ⟨w6.heap.size, 1, none⟩ = some (.int .i64 k) := by simp [World.cell?, HD8.out]
  have i7 : w8.cell? ⟨w6.heap.size, 2, none⟩ = some (.slice a6 n4 c6) := by simp [World.cell?, HD8.out]
  clear hb8 HER HB7 HC7 HO7 HA7 HD7 HL7 HCK7 HCL7
  go_wp2_with fail
  clear i2 i3 i4 i5 i6 i7
  refine HRS.out.mono ?_
  rintro e w9 ⟨rfl, hb9⟩
  have HB9 := hid (HB8.out.trans (hb9.mono HB8.out.size))
  have HC9 := hid ((hb9.block _ (Array.getElem?_eq_some_iff.1 HC8.out).1).trans HC8.out)
  have HO9 := hid ((hb9.block _ (Array.getElem?_eq_some_iff.1 HO8.out).1).trans HO8.out)
  have HL9 : Hid (LstI w9.heap.size w9 a2 c2 L) := (HL8.out.below hb9).mono hb9.size
  have k0 : w9.cell? ⟨w.heap.size, 0, none⟩ = some (.int .i64 size) := by simp [World.cell?, HC9.out]
  have k1 : w9.cell? ⟨w.heap.size, 1, none⟩ = some (.slice aL nL cL) := by simp [World.cell?, HC9.out]
  have k2 : w9.cell? ⟨w2.heap.size, 0, none⟩ = some (.int .i64 size) := by simp [World.cell?, HO9.out]
  have k3 : w9.cell? ⟨w2.heap.size, 1, none⟩ = some (.slice a2 nL c2) := by simp [World.cell?, HO9.out]
  clear hb9 HRS HB8 HC8 HO8 HA8 HD8 HL8 HCK8 HCL8
  go_wp2_with fail
  clear k0 k1 k2 k3
  refine (HAL.out a2 c2 w9 HB9.out HL9.out).mono ?_
  rintro e w10 ⟨rfl, hb10⟩
  have HB10 := hid (HB9.out.trans (hb10.mono HB9.out.size))
  clear hb10
  go_wp2_with fail
  go_ret
  exact ⟨rfl, HB10.out⟩

set_option maxRecDepth 100000 in
theorem mruns_any (SO : SrtAs) (p size limit : Int) (aL : Option Addr) (cL : Nat) (L : List InsZ) (w : World) (hL : Laid w) (hp1 : -9223372036854775808 ≤ p) (hp2 : p ≤ 9223372036854775807) (hn : L.length ≤ 4398046511104) (hl : LstI w.heap.size w aL cL L) (hIB : InsB L) :
    Calls Tryd.prog 3 #[.int .i64 p, .agg #[.int .i64 size, .slice aL L.length cL], .int .i64 limit] w fun e w' => e = .returned (.bool true) ∧ Below w.heap.size w w' := by
  by_cases hok : okPrime p
  · obtain ⟨q, rfl⟩ := Int.eq_ofNat_of_zero_le (show 0 ≤ p by have := hok.1; omega)
    obtain ⟨h3, h4, hpr⟩ := hok
    rw [Int.toNat_natCast] at hpr
    exact mruns_yes SO q size limit aL cL L w hL (by omega) (by omega) hpr hn hl hIB
  · obtain ⟨W0, hW0⟩ : ∃ W0, W0 = w.alloc (.cells #[.int .i64 size, .slice aL L.length cL] 24) := ⟨_, rfl⟩
    have hb0 : Below w.heap.size w W0 := by rw [hW0]; exact (Below.refl _ _).alloc (Nat.le_refl _) _
    have HF := hid (field_no p W0 (hL.below hb0) hok hp1 hp2)
    have HB0 := hid hb0
    obtain ⟨nL, hnL⟩ : ∃ nL, nL = L.length := ⟨_, rfl⟩
    rw [← hnL] at hW0 ⊢
    clear hb0 hn hl hIB hL hnL
    go_enter Tryd.func3, Tryd.ntmps3
    go_wp2_with fail
    rw [← hW0]
    refine HF.out.mono ?_
    rintro e w1 ⟨rfl, hb1⟩
    have HB1 := hid (HB0.out.trans (hb1.mono HB0.out.size))
    clear hb1 HF HB0 hW0
    go_wp2_with fail
    go_ret
    exact ⟨rfl, HB1.out⟩

end Go.Proofs.YthemehdcakimgaiDoor

namespace Go.Proofs
open Go.Shelf

def Tryd.sortC_ren : Go.Shelf.Ren := ⟨fun | 6 => 39 | 15 => 63 | 14 => 62 | 28 => 98 | 29 => 99 | 20 => 90 | 21 => 91 | 22 => 92 | 23 => 93 | 24 => 94 | 25 => 95 | 26 => 96 | 27 => 97 | 46 => 125 | 47 => 126 | 48 => 127 | 49 => 128 | 50 => 129 | 57 => 147 | n => n, fun | 22 => 29 | 24 => 67 | 25 => 113 | 3 => 3 | 39 => 133 | 0 => 0 | 53 => 181 | 55 => 183 | 4 => 4 | 46 => 174 | 45 => 173 | 50 => 178 | 5 => 5 | 9 => 9 | 66 => 214 | 70 => 218 | 76 => 227 | 77 => 228 | n => n, fun | n => n⟩
theorem Tryd.sortC : Go.Proofs.SlLaysF0.n6 Tryd.prog Tryd.sortC_ren := {
  mixed := by kernel_rfl
  f6 := ⟨Tryd.f39.name, by decide, Tryd.func39.trans (congrArg some (by kernel_rfl))⟩
  f14 := ⟨Tryd.f62.name, by decide, Tryd.func62.trans (congrArg some (by kernel_rfl))⟩
  f15 := Tryd.func63.trans (congrArg some (by kernel_rfl))
  f20 := ⟨Tryd.f90.name, by decide, Tryd.func90.trans (congrArg some (by kernel_rfl))⟩
  f21 := ⟨Tryd.f91.name, by decide, Tryd.func91.trans (congrArg some (by kernel_rfl))⟩
  f22 := ⟨Tryd.f92.name, by decide, Tryd.func92.trans (congrArg some (by kernel_rfl))⟩
  f23 := ⟨Tryd.f93.name, by decide, Tryd.func93.trans (congrArg some (by kernel_rfl))⟩
  f24 := ⟨Tryd.f94.name, by decide, Tryd.func94.trans (congrArg some (by kernel_rfl))⟩
  f25 := ⟨Tryd.f95.name, by decide, Tryd.func95.trans (congrArg some (by kernel_rfl))⟩
  f26 := ⟨Tryd.f96.name, by decide, Tryd.func96.trans (congrArg some (by kernel_rfl))⟩
  f27 := ⟨Tryd.f97.name, by decide, Tryd.func97.trans (congrArg some (by kernel_rfl))⟩
  f28 := Tryd.func98.trans (congrArg some (by kernel_rfl))
  f29 := Tryd.func99.trans (congrArg some (by kernel_rfl))
  f46 := ⟨Tryd.f125.name, by decide, Tryd.func125.trans (congrArg some (by kernel_rfl))⟩
  f47 := Tryd.func126.trans (congrArg some (by kernel_rfl))
  f48 := Tryd.func127.trans (congrArg some (by kernel_rfl))
  f49 := ⟨Tryd.f128.name, by decide, Tryd.func128.trans (congrArg some (by kernel_rfl))⟩
  f50 := ⟨Tryd.f129.name, by decide, Tryd.func129.trans (congrArg some (by kernel_rfl))⟩
  f57 := ⟨Tryd.f147.name, by decide, Tryd.func147.trans (congrArg some (by kernel_rfl))⟩
  t0 := Tryd.underlying0
  a0 := Tryd.isAgg0
  z0 := Tryd.sizeOf0
  v0 := Tryd.zeroValue0
  t3 := Tryd.underlying3
  a3 := Tryd.isAgg3
  z3 := Tryd.sizeOf3
  v3 := Tryd.zeroValue3
  t4 := Tryd.underlying4
  a4 := Tryd.isAgg4
  z4 := Tryd.sizeOf4
  v4 := Tryd.zeroValue4
  t5 := Tryd.underlying5
  a5 := Tryd.isAgg5
  z5 := Tryd.sizeOf5
  v5 := Tryd.zeroValue5
  t9 := Tryd.underlying9
  a9 := Tryd.isAgg9
  z9 := Tryd.sizeOf9
  v9 := Tryd.zeroValue9
  t22 := Tryd.underlying29
  a22 := Tryd.isAgg29
  z22 := Tryd.sizeOf29
  v22 := Tryd.zeroValue29
  t25 := Tryd.underlying113
  a25 := Tryd.isAgg113
  z25 := Tryd.sizeOf113
  v25 := Tryd.zeroValue113
  t39 := Tryd.underlying133
  a39 := Tryd.isAgg133
  z39 := Tryd.sizeOf133
  v39 := Tryd.zeroValue133
  t45 := Tryd.underlying173
  a45 := Tryd.isAgg173
  z45 := Tryd.sizeOf173
  v45 := Tryd.zeroValue173
  t46 := Tryd.underlying174
  a46 := Tryd.isAgg174
  z46 := Tryd.sizeOf174
  v46 := Tryd.zeroValue174
  t50 := Tryd.underlying178
  a50 := Tryd.isAgg178
  z50 := Tryd.sizeOf178
  v50 := Tryd.zeroValue178
  t53 := Tryd.underlying181
  a53 := Tryd.isAgg181
  z53 := Tryd.sizeOf181
  v53 := Tryd.zeroValue181
  t55 := Tryd.underlying183
  a55 := Tryd.isAgg183
  z55 := Tryd.sizeOf183
  v55 := Tryd.zeroValue183
  t66 := Tryd.underlying214
  a66 := Tryd.isAgg214
  z66 := Tryd.sizeOf214
  v66 := Tryd.zeroValue214
  t70 := Tryd.underlying218
  a70 := Tryd.isAgg218
  z70 := Tryd.sizeOf218
  v70 := Tryd.zeroValue218
  t76 := Tryd.underlying227
  a76 := Tryd.isAgg227
  z76 := Tryd.sizeOf227
  v76 := Tryd.zeroValue227
  t77 := Tryd.underlying228
  a77 := Tryd.isAgg228
  z77 := Tryd.sizeOf228
  v77 := Tryd.zeroValue228 }
end Go.Proofs

namespace Go.Proofs.YthemehdcakimgaiDoor
open Go.RowKit Go.Maps

set_option maxHeartbeats 1000000 in
theorem nani_any (x : Int) (w : World) : Calls Tryd.prog 64 #[.int .i64 x] w fun e w' => e = .returned (.bool false) ∧ w' = w := by
  go_enter Tryd.func64, Tryd.ntmps64
  go_wp2_with fail
  go_ret
  exact ⟨by simp, rfl⟩

set_option maxHeartbeats 1000000 in
theorem cmpi_any (x y : Int) (w : World) : Calls Tryd.prog 41 #[.int .i64 x, .int .i64 y] w fun e w' => e = .returned (.int .i64 (Lib.compareInt x y)) ∧ w' = w := by
  go_enter Tryd.func41, Tryd.ntmps41
  go_wp2_with fail
  refine (nani_any x _).mono ?_
  rintro e w1 ⟨rfl, h1⟩
  rw [h1]
  go_wp2_with fail
  refine (nani_any y _).mono ?_
  rintro e w2 ⟨rfl, h2⟩
  rw [h2]
  go_wp2_with fail
  all_goals (go_ret; refine ⟨?_, rfl⟩; unfold Lib.compareInt; (repeat' split) <;> first | rfl | (exfalso; omega))

set_option maxHeartbeats 1000000 in
/-- ascending's own comparison -/
theorem casc_any (x y : Int × Int) (W : World) : Calls Tryd.prog 40 #[.agg #[.int .i64 x.1, .int .i64 x.2], .agg #[.int .i64 y.1, .int .i64 y.2]] W fun e w' => e = .returned (.int .i64 (Lib.compareInt x.1 y.1)) ∧ ∃ q os', w' = Sort.grow (W.drewN q) os' := by
  have hcon := fun W' => cmpi_any x.1 y.1 W'
  generalize Lib.compareInt x.1 y.1 = r at hcon ⊢
  go_enter Tryd.func40, Tryd.ntmps40
  go_wp2_with fail
  refine (hcon _).mono ?_
  rintro e w' ⟨rfl, rfl⟩
  go_wp2_with fail
  go_ret
  exact ⟨rfl, 0, _, by rw [Sort.alloc_eq_grow, Sort.alloc_eq_grow, Sort.grow_grow]; rfl⟩

end Go.Proofs.YthemehdcakimgaiDoor
