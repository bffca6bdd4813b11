/- Package machine: slices.SortFunc at cells. Package machine: slices.SortFunc at cells, whole. Lists of cells that are read; what pairs come to, and their products. attestref8: ahead, Sorted, Each. attestref8: Sorted, Each. Package rules: how pairs are sorted. attestsame.Sponge, attestlaw3's plain and lives. -/
import Derived.Shelf.SlSortCmp.WholeK
import Derived.Lib.Small
import Derived.Test.YtdpdmgmeieijaaaGreatDoorSndAO
import Derived.Test.YtdpdmgmeieijaaaGreatDoorSndAL
import Derived.Shelf.SlSortCmp.NoneTotal
import Derived.Test.YtdpdmgmeieijaaaGreatDoorSndAA
import Derived.Test.YtdpdmgmeieijaaaGreatDoorFld
import Derived.Deep.QuietTactic
import Derived.BigQuiet
import Derived.Laws.AppendOwnNone
import Derived.Deep.RegionHeld3
import Derived.StillTailTactics
import Derived.Test.YtdpdmgmeieijaaaGreatDoorSpgs
import Derived.Test.YtdpdmgmeieijaaaGreatDoorDoms
namespace Go.Proofs.YtdpdmgmeieijaaaGreatDoor
open Go.RowKit Go.Maps

set_option maxHeartbeats 1000000 in
theorem nani_any (x : Int) (w : World) : Calls Tryz.prog 50 #[.int .i64 x] w fun e w' => e = .returned (.bool false) ∧ w' = w := by
  go_enter Tryz.func50, Tryz.ntmps50
  go_wp2_with fail
  go_ret
  exact ⟨by simp, rfl⟩

set_option maxHeartbeats 1000000 in
theorem cmpi_any (x y : Int) (w : World) : Calls Tryz.prog 37 #[.int .i64 x, .int .i64 y] w fun e w' => e = .returned (.int .i64 (Lib.compareInt x y)) ∧ w' = w := by
  go_enter Tryz.func37, Tryz.ntmps37
  go_wp2_with fail
  refine (nani_any x _).mono ?_
  rintro e w1 ⟨rfl, h1⟩
  rw [h1]
  go_wp2_with fail
  refine (nani_any y _).mono ?_
  rintro e w2 ⟨rfl, h2⟩
  rw [h2]
  go_wp2_with fail
  all_goals (go_ret; refine ⟨?_, rfl⟩; unfold Lib.compareInt; (repeat' split) <;> first | rfl | (exfalso; omega))

set_option maxHeartbeats 1000000 in
/-- ascending's own comparison -/
theorem casc_any (x y : Int × Int) (W : World) : Calls Tryz.prog 42 #[.agg #[.int .i64 x.1, .int .i64 x.2], .agg #[.int .i64 y.1, .int .i64 y.2]] W fun e w' => e = .returned (.int .i64 (Lib.compareInt x.1 y.1)) ∧ ∃ q os', w' = Sort.grow (W.drewN q) os' := by
  have hcon := fun W' => cmpi_any x.1 y.1 W'
  generalize Lib.compareInt x.1 y.1 = r at hcon ⊢
  go_enter Tryz.func42, Tryz.ntmps42
  go_wp2_with fail
  refine (hcon _).mono ?_
  rintro e w' ⟨rfl, rfl⟩
  go_wp2_with fail
  go_ret
  exact ⟨rfl, 0, _, by rw [Sort.alloc_eq_grow, Sort.alloc_eq_grow, Sort.grow_grow]; rfl⟩

end Go.Proofs.YtdpdmgmeieijaaaGreatDoor

namespace Go.Proofs.YtdpdmgmeieijaaaGreatDoor
open Go.RowKit Go.Maps

/-- a cell's two numbers -/
def enc2 (x : Int × Int) : List Value := [.int .i64 x.1, .int .i64 x.2]
def cf2 (x y : Int × Int) : Int := Lib.compareInt x.1 y.1
theorem lt2 (x y : Int × Int) : ltOf cf2 x y = decide (x.1 < y.1) := by
  unfold ltOf cf2 Lib.compareInt
  by_cases h1 : x.1 < y.1
  · simp [h1]
  · by_cases h2 : y.1 < x.1 <;> simp [h1, h2]
theorem swo2 : Sort.SWO (ltOf cf2) where
  irrefl x := by rw [lt2]; simp
  trans x y z h1 h2 := by rw [lt2] at *; simp at *; omega
  ntrans x y z h1 h2 := by rw [lt2] at *; simp at *; omega

theorem celv_flat (l : List (Int × Int)) (t : Nat) (h : t < l.length * 2) : (celv l)[t]? = some (Sort.flatK enc2 2 l.toArray)[t]! := by
  rw [Sort.get_flatK enc2 2 _ t (by simpa using h)]
  have hj : t / 2 < l.length := by omega
  have hc : (l.toArray)[t / 2]! = cat l (t / 2) := by
    rw [getElem!_pos _ _ (by simpa using hj)]
    simp [cat, hj]
  rw [hc]
  have ha := celv_at l (t / 2) hj
  rcases Nat.mod_two_eq_zero_or_one t with h0 | h0
  · rw [h0]
    have e : t / 2 * 2 = t := by omega
    rw [e] at ha
    exact ha.1
  · rw [h0]
    have e : t / 2 * 2 + 1 = t := by omega
    rw [e] at ha
    exact ha.2

theorem srt_perm {l : List (Int × Int)} {d' : Array (Int × Int)} (h : Sort.PermIn 0 l.toArray.size l.toArray d') : d'.size = l.length ∧ d'.toList.Perm l := by
  obtain ⟨h1, _, h3⟩ := h
  have h1' : d'.size = l.length := by simpa using h1
  refine ⟨h1', ?_⟩
  have e1 : (d'.extract 0 l.toArray.size) = d' := by
    rw [← h1]
    simp
  have e2 : (l.toArray.extract 0 l.toArray.size).toList = l := by simp
  rw [e1, e2] at h3
  exact h3

theorem srt_up {n : Nat} {d' : Array (Int × Int)} (hn : d'.size = n) (h : Sort.SortedIn (ltOf cf2) 0 n d') : d'.toList.Pairwise (fun a b => a.1 ≤ b.1) := by
  rw [List.pairwise_iff_getElem]
  intro i j hi hj hij
  have hi' : i < d'.size := by simpa using hi
  have hj' : j < d'.size := by simpa using hj
  have := h i j (Nat.zero_le _) hij (by omega)
  rw [lt2, getElem!_pos d' i hi', getElem!_pos d' j hj'] at this
  have h2 := of_decide_eq_false this
  simp only [Array.getElem_toList]
  omega

theorem srt_heap (W : World) (g n : Nat) (d' : Array (Int × Int)) (os : Array Obj) (k : Nat) (hk : k < W.heap.size) :
    (sortWorldK enc2 2 W g 0 n d' os).heap[k]? = if g = k then (W.heap[k]?).map (Sort.onCells (Sort.putCells id 0 (Sort.flatK enc2 2 d'))) else W.heap[k]? := by
  show ((W.heap.modify g (Sort.onCells (Sort.putCells id 0 (Sort.flatK enc2 2 d')))) ++ os)[k]? = _
  rw [Array.getElem?_append_left (by simpa using hk), Array.getElem?_modify]

theorem srt_cel {base : Nat} {W : World} {g cap : Nat} {l : List (Int × Int)} (h : CelR base W (.slice (some ⟨g, 0, none⟩) l.length cap) l) (hg0 : g < W.heap.size) (n : Nat) (d' : Array (Int × Int)) (os : Array Obj) (hd : d'.size = l.length) :
    CelR base (sortWorldK enc2 2 W g 0 n d' os) (.slice (some ⟨g, 0, none⟩) l.length cap) d'.toList := by
  obtain ⟨h1, h2⟩ := h
  have hdl : d'.toList.length = l.length := by simpa using hd
  refine ⟨celv_len _, .inr ?_⟩
  rcases h2 with ⟨h2, _⟩ | ⟨g', cap', cur, hv, hb, hgc, hn, hm, hs, ht⟩
  · cases h2
  · injection hv with hv1 hv2 hv3
    injection hv1 with hv1
    injection hv1 with hv1
    subst hv1 hv3
    refine ⟨g, cap, Sort.putCells id 0 (Sort.flatK enc2 2 d') cur, by rw [hdl], hb, ?_, by rw [hdl]; exact hn, hm, by simpa [Sort.putCells] using hs, ?_⟩
    · rw [srt_heap W g n d' os g hg0, if_pos rfl, hgc]
      rfl
    · apply List.ext_getElem?
      intro t
      by_cases hlt : t < d'.toList.length * 2
      · have hcu : t < cur.size := by rw [hs]; rw [hdl] at hlt; omega
        rw [List.getElem?_take_of_lt hlt, celv_flat _ t hlt]
        rw [Array.getElem?_toList]
        unfold Sort.putCells
        rw [Array.getElem?_mapIdx, Array.getElem?_eq_getElem hcu, Option.map_some, if_pos ⟨Nat.zero_le _, by rw [Sort.size_flatK]; rw [hdl] at hlt; omega⟩]
        rfl
      · rw [List.getElem?_take_eq_none (by omega), List.getElem?_eq_none (by rw [celv_len]; omega)]

theorem srt_below {base : Nat} {W : World} {g : Nat} (hb : base ≤ g) (hg0 : g < W.heap.size) (n : Nat) (d' : Array (Int × Int)) (os : Array Obj) : Below base W (sortWorldK enc2 2 W g 0 n d' os) := by
  refine ⟨rfl, rfl, rfl, size_sortWorldK_c enc2 2 W g 0 n d' os, fun k hk => ?_⟩
  rw [srt_heap W g n d' os k (by omega), if_neg (by omega)]

theorem srtAs : SrtAs := by
  intro base v l W h hl hb
  have h' := h
  rcases h'.2 with ⟨rfl, h0⟩ | ⟨g, cap, cur, rfl, hbg, hg, hn, hm, hs, ht⟩
  · have hl0 : l = [] := List.length_eq_zero_iff.1 h0
    subst hl0
    have hcon := AnyF.slices_SortFunc_none Tryz.sortC none 0 (.func (.func 42) #[] #[]) W
    refine Calls.mono hcon ?_
    rintro e w' ⟨rfl, rfl⟩
    exact ⟨rfl, [], .refl _, .nil, h, .refl _ _⟩
  · have hg0 : g < W.heap.size := by
      rcases Nat.lt_or_ge g W.heap.size with h | h
      · exact h
      · rw [Array.getElem?_eq_none h] at hg
        cases hg
    have hH : Sort.HoldsK enc2 2 W g 0 l.toArray := by
      intro t hts
      have hts' : t < l.length * 2 := by simpa using hts
      rw [Nat.zero_add]
      have hcu : t < cur.size := by rw [hs]; omega
      have hc := celv_flat l t hts'
      rw [← ht, List.getElem?_take_of_lt hts'] at hc
      constructor
      · unfold World.cell?
        rw [hg]
        simpa using hc
      · unfold World.frozen?
        rw [hg]
        simp
    have hcon := AnyQ.slices_SortFunc Tryz.sortC 2 Tryz.isAgg58 Tryz.sizeOf58 enc2 (fun _ => rfl) (fun x v hv => by simp [enc2] at hv; rcases hv with rfl | rfl <;> rfl) cf2 swo2 42 #[] g 0 cap l.toArray W (enters_of Tryz.func42 (by kernel_rfl) rfl) (fun _ _ _ _ x y => casc_any x y _) hH hg0 (by simp; omega)
    have hsz : l.toArray.size = l.length := by simp
    refine Calls.mono (by rw [hsz] at hcon; exact hcon) ?_
    rintro e w' ⟨rfl, d', n, os, hp, hso, rfl⟩
    rw [← hsz] at hp
    obtain ⟨hd, hpm⟩ := srt_perm hp
    exact ⟨rfl, d'.toList, hpm, srt_up hd hso, srt_cel h hg0 n d' os hd, srt_below hbg hg0 n d' os⟩

end Go.Proofs.YtdpdmgmeieijaaaGreatDoor

namespace Go.Proofs.YtdpdmgmeieijaaaGreatDoor
open Go.RowKit

/-- a list of cells that can be read -/
structure LstC (n0 : Nat) (w : World) (a : Option Addr) (cap : Nat) (L : List (Int × Int)) : Prop where
  row : ∀ k, k < L.length → ∃ b o, a = some ⟨b, o, none⟩ ∧ b < n0 ∧ w.cell? ⟨b, o + k * 2, none⟩ = some (.int .i64 (cat L k).1) ∧ w.cell? ⟨b, o + k * 2 + 1, none⟩ = some (.int .i64 (cat L k).2)
  room : L.length ≤ cap
  nil : a = none → cap = 0
theorem LstC.below {n0 : Nat} {A B : World} {a : Option Addr} {cap : Nat} {L : List (Int × Int)} (r : LstC n0 A a cap L) (h : Below n0 A B) : LstC n0 B a cap L :=
  ⟨fun k hk => by
    obtain ⟨b, o, h1, h2, h3, h4⟩ := r.row k hk
    exact ⟨b, o, h1, h2, (h.cell (p := ⟨b, o + k * 2, none⟩) h2).trans h3, (h.cell (p := ⟨b, o + k * 2 + 1, none⟩) h2).trans h4⟩, r.room, r.nil⟩
theorem LstC.mono {n0 n1 : Nat} {A : World} {a : Option Addr} {cap : Nat} {L : List (Int × Int)} (r : LstC n0 A a cap L) (h : n0 ≤ n1) : LstC n1 A a cap L :=
  ⟨fun k hk => by
    obtain ⟨b, o, h1, h2, h3⟩ := r.row k hk
    exact ⟨b, o, h1, by omega, h3⟩, r.room, r.nil⟩
/-- cells of the call's own can be read -/
theorem lstC_of_owns {w : World} {base : Nat} {v : Value} {L : List (Int × Int)} (h : CelR base w v L) : ∃ a cap, v = .slice a L.length cap ∧ LstC w.heap.size w a cap L := by
  have h' : w.ownsRow base 58 2 v L.length (celv L) := h
  rcases h.2 with ⟨h1, h2⟩ | ⟨g, cap, cur, hv, hbs, hg, hn, _⟩
  · refine ⟨none, 0, by rw [h1, h2], ⟨fun k hk => by omega, by omega, fun _ => rfl⟩⟩
  · refine ⟨some ⟨g, 0, none⟩, cap, hv, ⟨fun k hk => ⟨g, 0, rfl, (Array.getElem?_eq_some_iff.1 hg).1, ?_⟩, by omega, fun e => by cases e⟩⟩
    have hc : ∀ m x, (celv L)[m]? = some (.int .i64 x) → w.cell? ⟨g, m, none⟩ = some (.int .i64 x) := fun m x hx => by
      have := h'.cells (g := g) (by rw [hv]; rfl) m _ hx
      have hadd : (⟨g, 0, none⟩ : Addr).add m = ⟨g, m, none⟩ := by unfold Addr.add; split <;> simp_all
      rw [hadd] at this
      exact this
    obtain ⟨e0, e1⟩ := celv_at L k hk
    simp only [Nat.zero_add]
    exact ⟨hc _ _ e0, hc _ _ e1⟩

end Go.Proofs.YtdpdmgmeieijaaaGreatDoor

namespace Go.Proofs.YtdpdmgmeieijaaaGreatDoor
open Go.RowKit

/-- a pair is not behind another -/
def cle (a b : Int × Int) : Prop := a.1 < b.1 ∨ (a.1 = b.1 ∧ a.2 ≤ b.2)
instance (a b : Int × Int) : Decidable (cle a b) := inferInstanceAs (Decidable (_ ∨ _))
theorem cle_refl (a : Int × Int) : cle a a := .inr ⟨rfl, Int.le_refl _⟩
theorem cle_trans {a b c : Int × Int} (h : cle a b) (k : cle b c) : cle a c := by unfold cle at *; omega
theorem cle_antisymm {a b : Int × Int} (h : cle a b) (k : cle b a) : a = b := by
  unfold cle at *
  exact Prod.ext (by omega) (by omega)
theorem cle_total (a b : Int × Int) : cle a b ∨ cle b a := by unfold cle; omega
theorem sorted_one {l m : List (Int × Int)} (hl : l.Pairwise cle) (hm : m.Pairwise cle) (h : l.Perm m) : l = m :=
  h.eq_of_pairwise (fun _ _ _ _ h1 h2 => cle_antisymm h1 h2) hl hm
/-- is it ahead? -/
def ahd (a b : Int × Int) : Bool := !decide (cle b a)

theorem LstC.each {n0 : Nat} {w : World} {ad : Addr} {cap : Nat} {L : List (Int × Int)} (hl : LstC n0 w (some ad) cap L) (j : Nat) (u : Value) (hu : (celv L)[j]? = some u) : ∃ b o, ad = ⟨b, o, none⟩ ∧ b < n0 ∧ w.cell? ⟨b, o + j, none⟩ = some u := by
  have hj : j < (celv L).length := by
    rcases Nat.lt_or_ge j (celv L).length with g | g
    · exact g
    · simp [g] at hu
  rw [celv_len] at hj
  have hk : j / 2 < L.length := by omega
  obtain ⟨b, o, h1, h2, c0, c1⟩ := hl.row (j / 2) hk
  obtain ⟨e0, e1⟩ := celv_at L (j / 2) hk
  cases h1
  refine ⟨b, o, rfl, h2, ?_⟩
  rcases (show j = j / 2 * 2 ∨ j = j / 2 * 2 + 1 by omega) with h | h <;> (rw [h] at hu ⊢)
  · rw [← hu, e0]; exact c0
  · rw [← hu, e1, ← Nat.add_assoc]; exact c1

/-- a row of cells that can be written -/
structure CRow (g : Nat) (w : World) (l : List (Int × Int)) : Prop where
  lt : g < w.heap.size
  cells : ∀ k, k < l.length → w.cell? ⟨g, k * 2, none⟩ = some (.int .i64 (cat l k).1) ∧ w.cell? ⟨g, k * 2 + 1, none⟩ = some (.int .i64 (cat l k).2)
  soft : ∀ j, w.frozen? ⟨g, j, none⟩ = false
theorem CRow.block {g : Nat} {w w' : World} {l : List (Int × Int)} (h : CRow g w l) (e : w'.heap[g]? = w.heap[g]?) : CRow g w' l := by
  have hl : g < w'.heap.size := by
    have := h.lt
    rcases Nat.lt_or_ge g w'.heap.size with g1 | g1
    · exact g1
    · rw [Array.getElem?_eq_none g1, Array.getElem?_eq_getElem this] at e; cases e
  exact ⟨hl, fun k hk => ⟨(World.cell?_of_block (w := w) (a := ⟨g, k * 2, none⟩) e).trans (h.cells k hk).1, (World.cell?_of_block (w := w) (a := ⟨g, k * 2 + 1, none⟩) e).trans (h.cells k hk).2⟩, fun j => (World.frozen?_of_block (w := w) (a := ⟨g, j, none⟩) e).trans (h.soft j)⟩
theorem CRow.below {g n : Nat} {w w' : World} {l : List (Int × Int)} (h : CRow g w l) (e : Below n w w') (hg : g < n) : CRow g w' l := h.block (e.block g hg)
theorem cat_set {l : List (Int × Int)} {k j : Nat} {c : Int × Int} (hk : k < l.length) : cat (l.set k c) j = if j = k then c else cat l j := by
  unfold cat
  rw [List.getD_eq_getElem?_getD, List.getElem?_set]
  by_cases h : k = j
  · subst h; simp [hk]
  · rw [if_neg h, if_neg (fun e => h e.symm), List.getD_eq_getElem?_getD]
theorem CRow.set {g : Nat} {w : World} {l : List (Int × Int)} (h : CRow g w l) {k : Nat} (c : Int × Int) (hk : k < l.length) : CRow g ((w.setCell ⟨g, k * 2, none⟩ (.int .i64 c.1)).setCell ⟨g, k * 2 + 1, none⟩ (.int .i64 c.2)) (l.set k c) := by
  refine ⟨by simpa using h.lt, fun j hj => ?_, fun j => by rw [World.frozen?_setCell, World.frozen?_setCell]; exact h.soft j⟩
  rw [List.length_set] at hj
  have hc := h.cells j hj
  rw [cat_set hk]
  have ho : ∀ (W : World) (u v : Nat) (x : Value), u ≠ v → (W.setCell ⟨g, u, none⟩ x).cell? ⟨g, v, none⟩ = W.cell? ⟨g, v, none⟩ := fun W u v x huv => World.cell?_setCell_other _ _ _ _ (by intro e; injection e with _ h2 _; omega)
  by_cases e : j = k
  · subst e
    rw [if_pos rfl]
    constructor
    · rw [ho _ _ _ _ (by omega)]
      exact World.cell?_setCell_same _ _ _ hc.1
    · exact World.cell?_setCell_same _ _ _ ((ho _ _ _ _ (by omega)).trans hc.2)
  · rw [if_neg e]
    constructor
    · rw [ho _ _ _ _ (by omega), ho _ _ _ _ (by omega)]; exact hc.1
    · rw [ho _ _ _ _ (by omega), ho _ _ _ _ (by omega)]; exact hc.2
theorem CRow.lst {g cap : Nat} {w : World} {l : List (Int × Int)} (h : CRow g w l) (hc : l.length ≤ cap) : LstC w.heap.size w (some ⟨g, 0, none⟩) cap l :=
  ⟨fun k hk => ⟨g, 0, rfl, h.lt, by rw [Nat.zero_add]; exact (h.cells k hk).1, by rw [Nat.zero_add]; exact (h.cells k hk).2⟩, hc, fun e => by cases e⟩
theorem crow_of_owns {w : World} {base : Nat} {v : Value} {L : List (Int × Int)} (h : CelR base w v L) : (v = .slice none 0 0 ∧ L = []) ∨ ∃ g cap, v = .slice (some ⟨g, 0, none⟩) L.length cap ∧ base ≤ g ∧ L.length ≤ cap ∧ CRow g w L := by
  obtain ⟨a, c, hv, hl⟩ := lstC_of_owns h
  rcases h.2 with ⟨h1, h2⟩ | ⟨g, cap, cur, hv', hbs, hg, hn, _⟩
  · exact .inl ⟨h1, List.length_eq_zero_iff.1 h2⟩
  · right
    refine ⟨g, cap, hv', hbs, hn, (Array.getElem?_eq_some_iff.1 hg).1, fun k hk => ?_, fun j => by simp [World.frozen?, hg]⟩
    obtain ⟨b, o, e1, _, c0, c1⟩ := hl.row k hk
    rw [hv] at hv'
    injection hv' with e2
    rw [e1] at e2
    injection e2 with e2
    injection e2 with e2 e3
    subst e2 e3
    rw [Nat.zero_add] at c0 c1
    exact ⟨c0, c1⟩

end Go.Proofs.YtdpdmgmeieijaaaGreatDoor

namespace Go.Proofs.YtdpdmgmeieijaaaGreatDoor
open Go.RowKit

/-- the first i are sorted -/
def Srt (l : List (Int × Int)) (i : Nat) : Prop := ∀ x y, x < y → y < i → cle (cat l x) (cat l y)
/-- .. but for the one at k, which goes down -/
def Ins1 (l : List (Int × Int)) (i k : Nat) : Prop := (∀ x y, x < y → y ≤ i → x ≠ k → y ≠ k → cle (cat l x) (cat l y)) ∧ ∀ y, k < y → y ≤ i → cle (cat l k) (cat l y)
def swp (l : List (Int × Int)) (k m : Nat) : List (Int × Int) := (l.set k (cat l m)).set m (cat l k)
theorem swp_at {l : List (Int × Int)} {k m : Nat} (hk : k < l.length) (hm : m < l.length) (j : Nat) : cat (swp l k m) j = if j = m then cat l k else if j = k then cat l m else cat l j := by
  unfold swp
  rw [cat_set (by simpa using hm), cat_set hk]
theorem Ins1.start {l : List (Int × Int)} {i : Nat} (h : Srt l i) : Ins1 l i i := ⟨fun x y h1 h2 _ h4 => h x y h1 (by omega), fun y h1 h2 => by omega⟩
theorem Ins1.zero {l : List (Int × Int)} {i : Nat} (h : Ins1 l i 0) : Srt l (i + 1) := fun x y h1 h2 => by
  by_cases e : x = 0
  · subst e; exact h.2 y h1 (by omega)
  · exact h.1 x y h1 (by omega) e (by omega)
theorem Ins1.step {l : List (Int × Int)} {i k m : Nat} (h : Ins1 l i k) (hk : k = m + 1) (hki : k ≤ i) (hi : i < l.length) (hc : ahd (cat l k) (cat l m) = true) : Ins1 (swp l k m) i m := by
  have hc' : ¬ cle (cat l m) (cat l k) := by simpa [ahd] using hc
  have hlk : k < l.length := by omega
  have hlm : m < l.length := by omega
  refine ⟨fun x y h1 h2 h3 h4 => ?_, fun y h1 h2 => ?_⟩
  · rw [swp_at hlk hlm, swp_at hlk hlm, if_neg h3, if_neg h4]
    by_cases e : x = k
    · rw [if_pos e, if_neg (by omega)]
      exact h.1 m y (by omega) h2 (by omega) (by omega)
    · rw [if_neg e]
      by_cases e2 : y = k
      · rw [if_pos e2]
        exact h.1 x m (by omega) (by omega) e (by omega)
      · rw [if_neg e2]
        exact h.1 x y h1 h2 e e2
  · rw [swp_at hlk hlm, swp_at hlk hlm, if_pos rfl, if_neg (by omega)]
    by_cases e : y = k
    · rw [if_pos e]
      exact (cle_total _ _).resolve_left hc'
    · rw [if_neg e]
      exact h.2 y (by omega) h2
theorem Srt.all {l : List (Int × Int)} (h : Srt l l.length) : l.Pairwise cle := by
  rw [List.pairwise_iff_getElem]
  intro i j hi hj hij
  have := h i j hij hj
  simpa [cat, hi, hj] using this
/-- the state of Sorted -/
structure SrI (g n i : Nat) (L l : List (Int × Int)) (w wr : World) : Prop where
  len : l.length = n
  perm : l.Perm L
  srt : Srt l i
  row : CRow g wr l
  bel : Below w.heap.size w wr
structure SrJ (g n i k : Nat) (L l : List (Int × Int)) (w wr : World) : Prop where
  len : l.length = n
  perm : l.Perm L
  ins : Ins1 l i k
  row : CRow g wr l
  bel : Below w.heap.size w wr

end Go.Proofs.YtdpdmgmeieijaaaGreatDoor

namespace Go.Proofs.YtdpdmgmeieijaaaGreatDoor
open Go.RowKit Go.Maps

set_option maxHeartbeats 1000000 in
theorem cmpor_any (b : Nat) (x y : Int) (w : World) (h0 : w.cell? ⟨b, 0, none⟩ = some (.int .i64 x)) (h1 : w.cell? ⟨b, 1, none⟩ = some (.int .i64 y)) :
    Calls Tryz.prog 36 #[.slice (some ⟨b, 0, none⟩) 2 2] w fun e w' => e = .returned (.int .i64 (if x ≠ 0 then x else y)) ∧ w' = w := by
  by_cases hx : x = 0
  · subst hx
    rw [if_neg (by simp)]
    by_cases hy : y = 0
    · subst hy
      go_enter Tryz.func36, Tryz.ntmps36
      go_wp2_with fail
      go_loop [5, 8] (fun _ iv => iv = .int .i64 0 ∨ iv = .int .i64 1 ∨ iv = .int .i64 2) (fun _ iv => 2 - (intOf iv).toNat)
      case atStart => exact .inl rfl
      case round =>
        rcases hrel with rfl | rfl | rfl
        · go_wp2_with fail
          go_round
          case rel => exact .inr (.inl rfl)
          case measure => simp [intOf]
        · go_wp2_with fail
          go_round
          case rel => exact .inr (.inr rfl)
          case measure => simp [intOf]
        · go_wp2_with fail
          go_ret
          exact ⟨rfl, rfl⟩
    · have hyb : (y != 0) = true := by simp [hy]
      clear hy
      go_enter Tryz.func36, Tryz.ntmps36
      go_wp2_with fail
      go_loop [5, 8] (fun _ iv => iv = .int .i64 0 ∨ iv = .int .i64 1) (fun _ iv => 2 - (intOf iv).toNat)
      case atStart => exact .inl rfl
      case round =>
        rcases hrel with rfl | rfl
        · go_wp2_with fail
          go_round
          case rel => exact .inr rfl
          case measure => simp [intOf]
        · go_wp2_with fail
          go_ret
          exact ⟨rfl, rfl⟩
  · have hxb : (x != 0) = true := by simp [hx]
    rw [if_pos hx]
    clear hx
    go_enter Tryz.func36, Tryz.ntmps36
    go_wp2_with fail
    go_loop [5, 8] (fun _ iv => iv = .int .i64 0) (fun _ iv => 2 - (intOf iv).toNat)
    case atStart => rfl
    case round =>
      subst hrel
      go_wp2_with fail
      go_ret
      exact ⟨rfl, rfl⟩

/-- the order of pairs -/
def cf3 (x y : Int × Int) : Int := if Lib.compareInt x.1 y.1 ≠ 0 then Lib.compareInt x.1 y.1 else Lib.compareInt x.2 y.2
theorem cmpi_cases (x y : Int) : (x < y ∧ Lib.compareInt x y = -1) ∨ (x = y ∧ Lib.compareInt x y = 0) ∨ (y < x ∧ Lib.compareInt x y = 1) := by
  unfold Lib.compareInt
  by_cases h1 : x < y
  · simp [h1]
  · by_cases h2 : y < x
    · simp [h1, h2]
    · have : x = y := by omega
      simp [this]
theorem lt3 (x y : Int × Int) : ltOf cf3 x y = !decide (cle y x) := by
  have h1 := cmpi_cases x.1 y.1
  have h2 := cmpi_cases x.2 y.2
  have e : ltOf cf3 x y = decide (cf3 x y < 0) := rfl
  rw [e]
  unfold cf3 cle
  rcases h1 with ⟨a, b⟩ | ⟨a, b⟩ | ⟨a, b⟩
  · rw [b]
    have : ¬ (y.1 < x.1 ∨ y.1 = x.1 ∧ y.2 ≤ x.2) := by omega
    simp [this]
  · rw [b]
    rcases h2 with ⟨c, d⟩ | ⟨c, d⟩ | ⟨c, d⟩
    · rw [d]
      have : ¬ (y.1 < x.1 ∨ y.1 = x.1 ∧ y.2 ≤ x.2) := by omega
      simp [this]
    · rw [d]
      have : (y.1 < x.1 ∨ y.1 = x.1 ∧ y.2 ≤ x.2) := by omega
      simp [this]
    · rw [d]
      have : (y.1 < x.1 ∨ y.1 = x.1 ∧ y.2 ≤ x.2) := by omega
      simp [this]
  · rw [b]
    have : (y.1 < x.1 ∨ y.1 = x.1 ∧ y.2 ≤ x.2) := by omega
    simp [this]
theorem swo3 : Sort.SWO (ltOf cf3) where
  irrefl x := by rw [lt3]; simp [cle_refl]
  trans x y z h1 h2 := by
    rw [lt3] at *
    have h1' : ¬ cle y x := by simpa using h1
    have h2' : ¬ cle z y := by simpa using h2
    have : ¬ cle z x := fun h => by unfold cle at *; omega
    simp [this]
  ntrans x y z h1 h2 := by
    rw [lt3] at *
    have h1' : cle y x := by simpa using h1
    have h2' : cle z y := by simpa using h2
    have := cle_trans h2' h1'
    simp [this]

set_option maxRecDepth 100000 in
set_option maxHeartbeats 1000000 in
/-- sortedPairs' own comparison -/
theorem csort_any (x y : Int × Int) (W : World) : Calls Tryz.prog 35 #[.agg #[.int .i64 x.1, .int .i64 x.2], .agg #[.int .i64 y.1, .int .i64 y.2]] W fun e w' => e = .returned (.int .i64 (cf3 x y)) ∧ ∃ q os', w' = Sort.grow (W.drewN q) os' := by
  have hmx : Tryz.prog.follows .mixedOrders = true := by kernel_rfl
  have H1 := hid (fun W' => cmpi_any x.1 y.1 W')
  have H2 := hid (fun W' => cmpi_any x.2 y.2 W')
  have H3 := hid (fun (b : Nat) (W' : World) h0 h1 => cmpor_any b (Lib.compareInt x.1 y.1) (Lib.compareInt x.2 y.2) W' h0 h1)
  have HE : Hid (cf3 x y = if Lib.compareInt x.1 y.1 ≠ 0 then Lib.compareInt x.1 y.1 else Lib.compareInt x.2 y.2) := rfl
  generalize cf3 x y = r at *
  generalize Lib.compareInt x.1 y.1 = r1 at *
  generalize Lib.compareInt x.2 y.2 = r2 at *
  rw [← HE.out] at H3
  generalize x.1 = x0 at *
  generalize x.2 = x1 at *
  generalize y.1 = y0 at *
  generalize y.2 = y1 at *
  obtain ⟨W0, hW0⟩ : ∃ W0, W0 = (W.alloc (.cells #[.int .i64 x0, .int .i64 x1] 58)).alloc (.cells #[.int .i64 y0, .int .i64 y1] 58) := ⟨_, rfl⟩
  have hb1 : W0.heap[W.heap.size]? = some (.cells #[.int .i64 x0, .int .i64 x1] 58 (0, 0)) := by rw [hW0]; exact (Below.heap_alloc _ _ _ (by simp)).trans (heap_alloc_new W _)
  have hb2 : W0.heap[W.heap.size + 1]? = some (.cells #[.int .i64 y0, .int .i64 y1] 58 (0, 0)) := by rw [hW0]; have := heap_alloc_new (W.alloc (.cells #[.int .i64 x0, .int .i64 x1] 58)) (.cells #[.int .i64 y0, .int .i64 y1] 58); rwa [World.size_alloc] at this
  have a0 : W0.cell? ⟨W.heap.size, 0, none⟩ = some (.int .i64 x0) := by simp [World.cell?, hb1]
  have a1 : W0.cell? ⟨W.heap.size, 1, none⟩ = some (.int .i64 x1) := by simp [World.cell?, hb1]
  have b0 : W0.cell? ⟨W.heap.size + 1, 0, none⟩ = some (.int .i64 y0) := by simp [World.cell?, hb2]
  have b1 : W0.cell? ⟨W.heap.size + 1, 1, none⟩ = some (.int .i64 y1) := by simp [World.cell?, hb2]
  have HW0 : Hid (W0 = Sort.grow W #[.cells #[.int .i64 x0, .int .i64 x1] 58, .cells #[.int .i64 y0, .int .i64 y1] 58]) := by
    unfold Hid; rw [hW0, Sort.alloc_eq_grow, Sort.alloc_eq_grow, Sort.grow_grow]; rfl
  clear hb1 hb2 HE
  go_enter Tryz.func35, Tryz.ntmps35
  go_wp2_with fail
  rw [← hW0]
  clear hW0
  go_still_tail 10, hmx
  still_call (H1.out _)
  (repeat still_step)
  still_call (H2.out _)
  (repeat still_step)
  refine wpStill_nil ?_
  go_wp2_with fail
  refine (H3.out _ _ ?_ ?_).mono ?_
  · have hk : ((W0.alloc (.cells #[.int .i64 r1, .int .i64 r2] 3)).drew).heap[W0.heap.size]? = some (.cells #[.int .i64 r1, .int .i64 r2] 3 (0, 0)) := heap_alloc_new W0 _
    simp only [World.cell?, hk]
    rfl
  · have hk : ((W0.alloc (.cells #[.int .i64 r1, .int .i64 r2] 3)).drew).heap[W0.heap.size]? = some (.cells #[.int .i64 r1, .int .i64 r2] 3 (0, 0)) := heap_alloc_new W0 _
    simp only [World.cell?, hk]
    rfl
  rintro e w2 ⟨rfl, hw2⟩
  have hw3 := hw2.symm
  subst hw3
  go_wp2_with fail
  go_ret
  refine ⟨rfl, ?_⟩
  rw [HW0.out, Sort.alloc_eq_grow, Sort.grow_grow]
  exact ⟨1, _, rfl⟩

/-- what slices.SortFunc does to pairs -/
theorem srtP (base : Nat) (v : Value) (l : List (Int × Int)) (W : World) (h : CelR base W v l) (hl : l.length ≤ 8796093022208) (hb : base ≤ W.heap.size) :
    Calls Tryz.prog 34 #[v, .func (.func 35) #[] #[]] W fun e w' => e = .returned (.tuple #[]) ∧ ∃ l' : List (Int × Int), l'.Perm l ∧ l'.Pairwise cle ∧ CelR base w' v l' ∧ Below base W w' := by
  have h' := h
  rcases h'.2 with ⟨rfl, h0⟩ | ⟨g, cap, cur, rfl, hbg, hg, hn, hm, hs, ht⟩
  · have hl0 : l = [] := List.length_eq_zero_iff.1 h0
    subst hl0
    have hcon := AnyF.slices_SortFunc_none Tryz.sortC none 0 (.func (.func 35) #[] #[]) W
    refine Calls.mono hcon ?_
    rintro e w' ⟨rfl, rfl⟩
    exact ⟨rfl, [], .refl _, .nil, h, .refl _ _⟩
  · have hg0 : g < W.heap.size := by
      rcases Nat.lt_or_ge g W.heap.size with h | h
      · exact h
      · rw [Array.getElem?_eq_none h] at hg
        cases hg
    have hH : Sort.HoldsK enc2 2 W g 0 l.toArray := by
      intro t hts
      have hts' : t < l.length * 2 := by simpa using hts
      rw [Nat.zero_add]
      have hcu : t < cur.size := by rw [hs]; omega
      have hc := celv_flat l t hts'
      rw [← ht, List.getElem?_take_of_lt hts'] at hc
      constructor
      · unfold World.cell?
        rw [hg]
        simpa using hc
      · unfold World.frozen?
        rw [hg]
        simp
    have hcon := AnyQ.slices_SortFunc Tryz.sortC 2 Tryz.isAgg58 Tryz.sizeOf58 enc2 (fun _ => rfl) (fun x v hv => by simp [enc2] at hv; rcases hv with rfl | rfl <;> rfl) cf3 swo3 35 #[] g 0 cap l.toArray W (enters_of Tryz.func35 (by kernel_rfl) rfl) (fun _ _ _ _ x y => csort_any x y _) hH hg0 (by simp; omega)
    have hsz : l.toArray.size = l.length := by simp
    refine Calls.mono (by rw [hsz] at hcon; exact hcon) ?_
    rintro e w' ⟨rfl, d', n, os, hp, hso, rfl⟩
    rw [← hsz] at hp
    obtain ⟨hd, hpm⟩ := srt_perm hp
    refine ⟨rfl, d'.toList, hpm, ?_, srt_cel h hg0 n d' os hd, srt_below hbg hg0 n d' os⟩
    rw [List.pairwise_iff_getElem]
    intro i j hi hj hij
    have hi' : i < d'.size := by simpa using hi
    have hj' : j < d'.size := by simpa using hj
    have := hso i j (Nat.zero_le _) hij (by omega)
    rw [lt3, getElem!_pos d' i hi', getElem!_pos d' j hj'] at this
    simpa using this

end Go.Proofs.YtdpdmgmeieijaaaGreatDoor

namespace Go.Proofs.YtdpdmgmeieijaaaGreatDoor
open Go.RowKit

end Go.Proofs.YtdpdmgmeieijaaaGreatDoor
