/- Package machine: slices.SortFunc at cells. Package machine: slices.SortFunc at cells, whole. Plain facts on products of x less numbers: they tell lists apart. Lists of cells that are read; what pairs come to, and their products. attestref8: ahead, Sorted, Each. -/
import Derived.Shelf.SlSortCmp.WholeK
import Derived.Lib.Small
import Derived.Test.YtaibngnabhmabajGreatDoorSrtC
import Derived.Test.YtaibngnabhmabajGreatDoorBtAN
import Derived.Shelf.SlSortCmp.NoneTotal
import Derived.Test.YtaibngnabhmabajGreatDoorPlain
import Derived.Test.YtaibngnabhmabajGreatDoorBtAA
import Derived.Test.YtaibngnabhmabajGreatDoorFld
import Derived.Deep.QuietTactic
import Derived.BigQuiet
import Derived.Laws.AppendOwnNone
import Derived.Deep.RegionHeld3
namespace Go.Proofs.YtaibngnabhmabajGreatDoor
open Go.RowKit Go.Maps

set_option maxHeartbeats 1000000 in
theorem nani_any (x : Int) (w : World) : Calls Tryz.prog 131 #[.int .i64 x] w fun e w' => e = .returned (.bool false) ∧ w' = w := by
  go_enter Tryz.func131, Tryz.ntmps131
  go_wp2_with fail
  go_ret
  exact ⟨by simp, rfl⟩

set_option maxHeartbeats 1000000 in
theorem cmpi_any (x y : Int) (w : World) : Calls Tryz.prog 89 #[.int .i64 x, .int .i64 y] w fun e w' => e = .returned (.int .i64 (Lib.compareInt x y)) ∧ w' = w := by
  go_enter Tryz.func89, Tryz.ntmps89
  go_wp2_with fail
  refine (nani_any x _).mono ?_
  rintro e w1 ⟨rfl, h1⟩
  rw [h1]
  go_wp2_with fail
  refine (nani_any y _).mono ?_
  rintro e w2 ⟨rfl, h2⟩
  rw [h2]
  go_wp2_with fail
  all_goals (go_ret; refine ⟨?_, rfl⟩; unfold Lib.compareInt; (repeat' split) <;> first | rfl | (exfalso; omega))

end Go.Proofs.YtaibngnabhmabajGreatDoor

namespace Go.Proofs.YtaibngnabhmabajGreatDoor
open Go.RowKit Go.Maps

/-- a cell's two numbers -/
def enc2 (x : Int × Int) : List Value := [.int .i64 x.1, .int .i64 x.2]
theorem celv_flat (l : List (Int × Int)) (t : Nat) (h : t < l.length * 2) : (celv l)[t]? = some (Sort.flatK enc2 2 l.toArray)[t]! := by
  rw [Sort.get_flatK enc2 2 _ t (by simpa using h)]
  have hj : t / 2 < l.length := by omega
  have hc : (l.toArray)[t / 2]! = cat l (t / 2) := by
    rw [getElem!_pos _ _ (by simpa using hj)]
    simp [cat, hj]
  rw [hc]
  have ha := celv_at l (t / 2) hj
  rcases Nat.mod_two_eq_zero_or_one t with h0 | h0
  · rw [h0]
    have e : t / 2 * 2 = t := by omega
    rw [e] at ha
    exact ha.1
  · rw [h0]
    have e : t / 2 * 2 + 1 = t := by omega
    rw [e] at ha
    exact ha.2

theorem srt_perm {l : List (Int × Int)} {d' : Array (Int × Int)} (h : Sort.PermIn 0 l.toArray.size l.toArray d') : d'.size = l.length ∧ d'.toList.Perm l := by
  obtain ⟨h1, _, h3⟩ := h
  have h1' : d'.size = l.length := by simpa using h1
  refine ⟨h1', ?_⟩
  have e1 : (d'.extract 0 l.toArray.size) = d' := by
    rw [← h1]
    simp
  have e2 : (l.toArray.extract 0 l.toArray.size).toList = l := by simp
  rw [e1, e2] at h3
  exact h3

theorem srt_heap (W : World) (g n : Nat) (d' : Array (Int × Int)) (os : Array Obj) (k : Nat) (hk : k < W.heap.size) :
    (sortWorldK enc2 2 W g 0 n d' os).heap[k]? = if g = k then (W.heap[k]?).map (Sort.onCells (Sort.putCells id 0 (Sort.flatK enc2 2 d'))) else W.heap[k]? := by
  show ((W.heap.modify g (Sort.onCells (Sort.putCells id 0 (Sort.flatK enc2 2 d')))) ++ os)[k]? = _
  rw [Array.getElem?_append_left (by simpa using hk), Array.getElem?_modify]

theorem srt_cel {base : Nat} {W : World} {g cap : Nat} {l : List (Int × Int)} (h : CelR base W (.slice (some ⟨g, 0, none⟩) l.length cap) l) (hg0 : g < W.heap.size) (n : Nat) (d' : Array (Int × Int)) (os : Array Obj) (hd : d'.size = l.length) :
    CelR base (sortWorldK enc2 2 W g 0 n d' os) (.slice (some ⟨g, 0, none⟩) l.length cap) d'.toList := by
  obtain ⟨h1, h2⟩ := h
  have hdl : d'.toList.length = l.length := by simpa using hd
  refine ⟨celv_len _, .inr ?_⟩
  rcases h2 with ⟨h2, _⟩ | ⟨g', cap', cur, hv, hb, hgc, hn, hm, hs, ht⟩
  · cases h2
  · injection hv with hv1 hv2 hv3
    injection hv1 with hv1
    injection hv1 with hv1
    subst hv1 hv3
    refine ⟨g, cap, Sort.putCells id 0 (Sort.flatK enc2 2 d') cur, by rw [hdl], hb, ?_, by rw [hdl]; exact hn, hm, by simpa [Sort.putCells] using hs, ?_⟩
    · rw [srt_heap W g n d' os g hg0, if_pos rfl, hgc]
      rfl
    · apply List.ext_getElem?
      intro t
      by_cases hlt : t < d'.toList.length * 2
      · have hcu : t < cur.size := by rw [hs]; rw [hdl] at hlt; omega
        rw [List.getElem?_take_of_lt hlt, celv_flat _ t hlt]
        rw [Array.getElem?_toList]
        unfold Sort.putCells
        rw [Array.getElem?_mapIdx, Array.getElem?_eq_getElem hcu, Option.map_some, if_pos ⟨Nat.zero_le _, by rw [Sort.size_flatK]; rw [hdl] at hlt; omega⟩]
        rfl
      · rw [List.getElem?_take_eq_none (by omega), List.getElem?_eq_none (by rw [celv_len]; omega)]

theorem srt_below {base : Nat} {W : World} {g : Nat} (hb : base ≤ g) (hg0 : g < W.heap.size) (n : Nat) (d' : Array (Int × Int)) (os : Array Obj) : Below base W (sortWorldK enc2 2 W g 0 n d' os) := by
  refine ⟨rfl, rfl, rfl, size_sortWorldK_c enc2 2 W g 0 n d' os, fun k hk => ?_⟩
  rw [srt_heap W g n d' os k (by omega), if_neg (by omega)]

end Go.Proofs.YtaibngnabhmabajGreatDoor

namespace Go.Proofs.YtaibngnabhmabajGreatDoor.Pol

/-- the product of x less each of a list, as a polynomial -/
def pl : List Int → S
  | [] => one
  | r :: l => mul (pl l) (lin r)
end Go.Proofs.YtaibngnabhmabajGreatDoor.Pol

namespace Go.Proofs.YtaibngnabhmabajGreatDoor
open Go.RowKit

/-- a list of cells that can be read -/
structure LstC (n0 : Nat) (w : World) (a : Option Addr) (cap : Nat) (L : List (Int × Int)) : Prop where
  row : ∀ k, k < L.length → ∃ b o, a = some ⟨b, o, none⟩ ∧ b < n0 ∧ w.cell? ⟨b, o + k * 2, none⟩ = some (.int .i64 (cat L k).1) ∧ w.cell? ⟨b, o + k * 2 + 1, none⟩ = some (.int .i64 (cat L k).2)
  room : L.length ≤ cap
  nil : a = none → cap = 0
theorem LstC.below {n0 : Nat} {A B : World} {a : Option Addr} {cap : Nat} {L : List (Int × Int)} (r : LstC n0 A a cap L) (h : Below n0 A B) : LstC n0 B a cap L :=
  ⟨fun k hk => by
    obtain ⟨b, o, h1, h2, h3, h4⟩ := r.row k hk
    exact ⟨b, o, h1, h2, (h.cell (p := ⟨b, o + k * 2, none⟩) h2).trans h3, (h.cell (p := ⟨b, o + k * 2 + 1, none⟩) h2).trans h4⟩, r.room, r.nil⟩
theorem LstC.mono {n0 n1 : Nat} {A : World} {a : Option Addr} {cap : Nat} {L : List (Int × Int)} (r : LstC n0 A a cap L) (h : n0 ≤ n1) : LstC n1 A a cap L :=
  ⟨fun k hk => by
    obtain ⟨b, o, h1, h2, h3⟩ := r.row k hk
    exact ⟨b, o, h1, by omega, h3⟩, r.room, r.nil⟩
/-- cells of the call's own can be read -/
theorem lstC_of_owns {w : World} {base : Nat} {v : Value} {L : List (Int × Int)} (h : CelR base w v L) : ∃ a cap, v = .slice a L.length cap ∧ LstC w.heap.size w a cap L := by
  have h' : w.ownsRow base 149 2 v L.length (celv L) := h
  rcases h.2 with ⟨h1, h2⟩ | ⟨g, cap, cur, hv, hbs, hg, hn, _⟩
  · refine ⟨none, 0, by rw [h1, h2], ⟨fun k hk => by omega, by omega, fun _ => rfl⟩⟩
  · refine ⟨some ⟨g, 0, none⟩, cap, hv, ⟨fun k hk => ⟨g, 0, rfl, (Array.getElem?_eq_some_iff.1 hg).1, ?_⟩, by omega, fun e => by cases e⟩⟩
    have hc : ∀ m x, (celv L)[m]? = some (.int .i64 x) → w.cell? ⟨g, m, none⟩ = some (.int .i64 x) := fun m x hx => by
      have := h'.cells (g := g) (by rw [hv]; rfl) m _ hx
      have hadd : (⟨g, 0, none⟩ : Addr).add m = ⟨g, m, none⟩ := by unfold Addr.add; split <;> simp_all
      rw [hadd] at this
      exact this
    obtain ⟨e0, e1⟩ := celv_at L k hk
    simp only [Nat.zero_add]
    exact ⟨hc _ _ e0, hc _ _ e1⟩

/-- what a pair comes to with y -/
def nb (p : Nat) (y : Int) (c : Int × Int) : Int := (c.1 + c.2 * y) % (p : Int)
end Go.Proofs.YtaibngnabhmabajGreatDoor

namespace Go.Proofs.YtaibngnabhmabajGreatDoor
open Go.RowKit

/-- a pair is not behind another -/
def cle (a b : Int × Int) : Prop := a.1 < b.1 ∨ (a.1 = b.1 ∧ a.2 ≤ b.2)
instance (a b : Int × Int) : Decidable (cle a b) := inferInstanceAs (Decidable (_ ∨ _))
theorem cle_refl (a : Int × Int) : cle a a := .inr ⟨rfl, Int.le_refl _⟩
theorem cle_trans {a b c : Int × Int} (h : cle a b) (k : cle b c) : cle a c := by unfold cle at *; omega
theorem cle_antisymm {a b : Int × Int} (h : cle a b) (k : cle b a) : a = b := by
  unfold cle at *
  exact Prod.ext (by omega) (by omega)
theorem cle_total (a b : Int × Int) : cle a b ∨ cle b a := by unfold cle; omega
theorem sorted_one {l m : List (Int × Int)} (hl : l.Pairwise cle) (hm : m.Pairwise cle) (h : l.Perm m) : l = m :=
  h.eq_of_pairwise (fun _ _ _ _ h1 h2 => cle_antisymm h1 h2) hl hm
/-- is it ahead? -/
def ahd (a b : Int × Int) : Bool := !decide (cle b a)

theorem celv_one : ∀ (L : List (Int × Int)) (u : Value), u ∈ celv L → u.oneCell' = true
  | [], _, h => by cases h
  | x :: r, u, h => by
    simp only [celv, List.mem_cons] at h
    rcases h with rfl | rfl | h
    · rfl
    · rfl
    · exact celv_one r u h
theorem LstC.each {n0 : Nat} {w : World} {ad : Addr} {cap : Nat} {L : List (Int × Int)} (hl : LstC n0 w (some ad) cap L) (j : Nat) (u : Value) (hu : (celv L)[j]? = some u) : ∃ b o, ad = ⟨b, o, none⟩ ∧ b < n0 ∧ w.cell? ⟨b, o + j, none⟩ = some u := by
  have hj : j < (celv L).length := by
    rcases Nat.lt_or_ge j (celv L).length with g | g
    · exact g
    · simp [g] at hu
  rw [celv_len] at hj
  have hk : j / 2 < L.length := by omega
  obtain ⟨b, o, h1, h2, c0, c1⟩ := hl.row (j / 2) hk
  obtain ⟨e0, e1⟩ := celv_at L (j / 2) hk
  cases h1
  refine ⟨b, o, rfl, h2, ?_⟩
  rcases (show j = j / 2 * 2 ∨ j = j / 2 * 2 + 1 by omega) with h | h <;> (rw [h] at hu ⊢)
  · rw [← hu, e0]; exact c0
  · rw [← hu, e1, ← Nat.add_assoc]; exact c1

/-- append([]api.Cell{}, l...) -/
theorem wpList_copyC {ops : Array Oper} {rest : List Oper} {o : Oper} {act : Act} {Q : Exit → Act → World → Prop} (w1 : World) (g : Nat) (hgs : w1.heap.size = g) (hgd : o.guard = none) (s x : Operand)
    (ho : o.op = .call { callee := .builtin .append, args := #[s, x], argTypes := #[64, 64] })
    (hs : act.eval s = .slice (some ⟨g, 0, none⟩) 0 0) (av : Option Addr) (cap : Nat) (L : List (Int × Int)) (hx : act.eval x = .slice av L.length cap)
    (hlen : L.length ≤ 8796093022208) (hl : LstC w1.heap.size w1 av cap L)
    (h : ∀ v' w2, CelR w1.heap.size w2 v' L → Below w1.heap.size w1 w2 → wpList Tryz.prog ops Q rest (act.put o.dst v') w2)
    (h0 : ∀ w2, L = [] → Below w1.heap.size w1 w2 → wpList Tryz.prog ops Q rest (act.put o.dst (.slice (some ⟨g, 0, none⟩) 0 0)) w2) :
    wpList Tryz.prog ops Q (o :: rest) act (w1.alloc (.cells #[] 149)) := by
  subst hgs
  obtain ⟨i0, hi, hz0, hz1, hz2⟩ := info_parts (show (Tryz.prog.info? 149).map (fun i => (i.zero, i.size, i.bytes)) = some (some (.agg #[.int .i64 0, .int .i64 0]), 2, 16) by kernel_rfl)
  have hown : (w1.alloc (.cells #[] 149)).ownsRow w1.heap.size 149 2 (.slice (some ⟨w1.heap.size, 0, none⟩) 0 0) 0 [] := World.ownsRow_made (size := 2) w1 #[] 0 (Nat.le_refl _) (by unfold maxLen; omega) (by simp)
  have hb0 : Below w1.heap.size w1 (w1.alloc (.cells #[] 149)) := (Below.refl _ _).alloc (Nat.le_refl _) _
  cases av with
  | none =>
    have hc := hl.nil rfl
    have hr := hl.room
    obtain rfl : cap = 0 := hc
    obtain rfl : L = [] := List.length_eq_zero_iff.1 (by omega)
    refine wpList_append_own_none hgd s x 64 ho w1.heap.size 149 i0 2 Tryz.underlying64 hi _ _ _ hs hown hx ?_
    exact h0 _ rfl hb0
  | some ad =>
    refine wpList_append_own _ hgd s x 64 ho w1.heap.size 149 i0 _ 2 16 Tryz.underlying64 hi hz0 hz1 hz2 rfl (by decide) _ _ _ hs hown ad L.length cap (celv L) hx (by rw [celv_len]) ?_ (fun u hu => celv_one L u hu) (by unfold maxLen; omega) (by omega) (by simp) ?_
    · intro j u hu
      obtain ⟨b, off, rfl, h2, h5⟩ := hl.each j u hu
      have hadd : (⟨b, off, none⟩ : Addr).add j = ⟨b, off + j, none⟩ := by unfold Addr.add; split <;> simp_all
      rw [hadd, World.cell?_alloc_lt _ _ ⟨b, off + j, none⟩ h2]
      exact h5
    · intro v' w2 hown2 hgrow _
      rw [Nat.zero_add, List.nil_append] at hown2
      have hb2 : Below w1.heap.size w1 w2 := hb0.grown hgrow (by simp) (fun k hk => (hown.lt k hk).1)
      exact h v' w2 hown2 hb2

/-- a row of cells that can be written -/
structure CRow (g : Nat) (w : World) (l : List (Int × Int)) : Prop where
  lt : g < w.heap.size
  cells : ∀ k, k < l.length → w.cell? ⟨g, k * 2, none⟩ = some (.int .i64 (cat l k).1) ∧ w.cell? ⟨g, k * 2 + 1, none⟩ = some (.int .i64 (cat l k).2)
  soft : ∀ j, w.frozen? ⟨g, j, none⟩ = false
theorem CRow.block {g : Nat} {w w' : World} {l : List (Int × Int)} (h : CRow g w l) (e : w'.heap[g]? = w.heap[g]?) : CRow g w' l := by
  have hl : g < w'.heap.size := by
    have := h.lt
    rcases Nat.lt_or_ge g w'.heap.size with g1 | g1
    · exact g1
    · rw [Array.getElem?_eq_none g1, Array.getElem?_eq_getElem this] at e; cases e
  exact ⟨hl, fun k hk => ⟨(World.cell?_of_block (w := w) (a := ⟨g, k * 2, none⟩) e).trans (h.cells k hk).1, (World.cell?_of_block (w := w) (a := ⟨g, k * 2 + 1, none⟩) e).trans (h.cells k hk).2⟩, fun j => (World.frozen?_of_block (w := w) (a := ⟨g, j, none⟩) e).trans (h.soft j)⟩
theorem CRow.below {g n : Nat} {w w' : World} {l : List (Int × Int)} (h : CRow g w l) (e : Below n w w') (hg : g < n) : CRow g w' l := h.block (e.block g hg)
theorem cat_set {l : List (Int × Int)} {k j : Nat} {c : Int × Int} (hk : k < l.length) : cat (l.set k c) j = if j = k then c else cat l j := by
  unfold cat
  rw [List.getD_eq_getElem?_getD, List.getElem?_set]
  by_cases h : k = j
  · subst h; simp [hk]
  · rw [if_neg h, if_neg (fun e => h e.symm), List.getD_eq_getElem?_getD]
theorem CRow.set {g : Nat} {w : World} {l : List (Int × Int)} (h : CRow g w l) {k : Nat} (c : Int × Int) (hk : k < l.length) : CRow g ((w.setCell ⟨g, k * 2, none⟩ (.int .i64 c.1)).setCell ⟨g, k * 2 + 1, none⟩ (.int .i64 c.2)) (l.set k c) := by
  refine ⟨by simpa using h.lt, fun j hj => ?_, fun j => by rw [World.frozen?_setCell, World.frozen?_setCell]; exact h.soft j⟩
  rw [List.length_set] at hj
  have hc := h.cells j hj
  rw [cat_set hk]
  have ho : ∀ (W : World) (u v : Nat) (x : Value), u ≠ v → (W.setCell ⟨g, u, none⟩ x).cell? ⟨g, v, none⟩ = W.cell? ⟨g, v, none⟩ := fun W u v x huv => World.cell?_setCell_other _ _ _ _ (by intro e; injection e with _ h2 _; omega)
  by_cases e : j = k
  · subst e
    rw [if_pos rfl]
    constructor
    · rw [ho _ _ _ _ (by omega)]
      exact World.cell?_setCell_same _ _ _ hc.1
    · exact World.cell?_setCell_same _ _ _ ((ho _ _ _ _ (by omega)).trans hc.2)
  · rw [if_neg e]
    constructor
    · rw [ho _ _ _ _ (by omega), ho _ _ _ _ (by omega)]; exact hc.1
    · rw [ho _ _ _ _ (by omega), ho _ _ _ _ (by omega)]; exact hc.2
theorem CRow.lst {g cap : Nat} {w : World} {l : List (Int × Int)} (h : CRow g w l) (hc : l.length ≤ cap) : LstC w.heap.size w (some ⟨g, 0, none⟩) cap l :=
  ⟨fun k hk => ⟨g, 0, rfl, h.lt, by rw [Nat.zero_add]; exact (h.cells k hk).1, by rw [Nat.zero_add]; exact (h.cells k hk).2⟩, hc, fun e => by cases e⟩
theorem crow_of_owns {w : World} {base : Nat} {v : Value} {L : List (Int × Int)} (h : CelR base w v L) : (v = .slice none 0 0 ∧ L = []) ∨ ∃ g cap, v = .slice (some ⟨g, 0, none⟩) L.length cap ∧ base ≤ g ∧ L.length ≤ cap ∧ CRow g w L := by
  obtain ⟨a, c, hv, hl⟩ := lstC_of_owns h
  rcases h.2 with ⟨h1, h2⟩ | ⟨g, cap, cur, hv', hbs, hg, hn, _⟩
  · exact .inl ⟨h1, List.length_eq_zero_iff.1 h2⟩
  · right
    refine ⟨g, cap, hv', hbs, hn, (Array.getElem?_eq_some_iff.1 hg).1, fun k hk => ?_, fun j => by simp [World.frozen?, hg]⟩
    obtain ⟨b, o, e1, _, c0, c1⟩ := hl.row k hk
    rw [hv] at hv'
    injection hv' with e2
    rw [e1] at e2
    injection e2 with e2
    injection e2 with e2 e3
    subst e2 e3
    rw [Nat.zero_add] at c0 c1
    exact ⟨c0, c1⟩

set_option maxHeartbeats 1000000 in
theorem rahead_any (x y : Int × Int) (w : World) : Calls Tryz.prog 97 #[.agg #[.int .i64 x.1, .int .i64 x.2], .agg #[.int .i64 y.1, .int .i64 y.2]] w fun e w' => e = .returned (.bool (ahd x y)) ∧ Below w.heap.size w w' := by
  obtain ⟨W0, hW0⟩ : ∃ W0, W0 = (w.alloc (.cells #[.int .i64 x.1, .int .i64 x.2] 149)).alloc (.cells #[.int .i64 y.1, .int .i64 y.2] 149) := ⟨_, rfl⟩
  have HB0 : Hid (Below w.heap.size w W0) := by unfold Hid; rw [hW0]; exact ((Below.refl _ _).alloc (Nat.le_refl _) _).alloc (by simp) _
  obtain ⟨x0, x1⟩ := x
  obtain ⟨y0, y1⟩ := y
  simp only at hW0 ⊢
  by_cases h1 : x0 < y0
  · have HE : Hid (ahd (x0, x1) (y0, y1) = true) := by
      have : ¬ cle (y0, y1) (x0, x1) := by unfold cle; simp only; omega
      unfold Hid ahd; simp [this]
    go_enter Tryz.func97, Tryz.ntmps97
    go_wp2_with fail
    rw [← hW0]
    go_ret
    exact ⟨by rw [HE.out]; rfl, HB0.out⟩
  · by_cases h2 : x0 = y0
    · have h2b : (x0 == y0) = true := by simp [h2]
      have HE : Hid (ahd (x0, x1) (y0, y1) = decide (x1 < y1)) := by
        by_cases h : x1 < y1
        · have : ¬ cle (y0, y1) (x0, x1) := by unfold cle; simp only; omega
          unfold Hid ahd; simp [this, h]
        · have : cle (y0, y1) (x0, x1) := by unfold cle; simp only; omega
          unfold Hid ahd; simp [this, h]
      clear h2
      by_cases h3 : x1 < y1
      · go_enter Tryz.func97, Tryz.ntmps97
        go_wp2_with fail
        rw [← hW0]
        go_ret
        exact ⟨by rw [HE.out, decide_eq_true h3]; rfl, HB0.out⟩
      · go_enter Tryz.func97, Tryz.ntmps97
        go_wp2_with fail
        rw [← hW0]
        go_ret
        exact ⟨by rw [HE.out, decide_eq_false (by omega)]; rfl, HB0.out⟩
    · have h2b : (x0 == y0) = false := by simp [h2]
      have HE : Hid (ahd (x0, x1) (y0, y1) = false) := by
        have : cle (y0, y1) (x0, x1) := by unfold cle; simp only; omega
        unfold Hid ahd; simp [this]
      clear h2
      go_enter Tryz.func97, Tryz.ntmps97
      go_wp2_with fail
      rw [← hW0]
      go_ret
      exact ⟨by rw [HE.out]; rfl, HB0.out⟩

end Go.Proofs.YtaibngnabhmabajGreatDoor
