/- The reference of programs as text: functions in memory. -/
import Derived.Test.YthemehdcakimgaiGreatDoorRgK
import Derived.Test.YthemehdcakimgaiGreatDoorBgAQ
namespace Go.Proofs.YthemehdcakimgaiGreatDoor
open Go.RowKit

/-- a function of the reference in memory -/
def RFn (lo : Nat) (w : World) (g : FnT) (X : Nat) : Prop := ∃ am cm aw cw pb, lo ≤ X ∧ w.heap[X]? = some (.cells #[.string (bs g.name), .int .i64 (g.at' : Int), .slice am g.more.length cm, .slice aw g.more.length cw, .pointer pb] 42 (0, 0)) ∧ (g.more.length ≤ cm ∧ (am = none → g.more.length = 0 ∧ cm = 0)) ∧ XT lo w g.body (.pointer pb) ∧
  (∀ i x, g.more[i]? = some x → ∃ k, am = some ⟨k, 0, none⟩ ∧ lo ≤ k ∧ w.cell? ⟨k, i, none⟩ = some (.string (bs x.1))) ∧ (∀ i x, g.more[i]? = some x → ∃ k, aw = some ⟨k, 0, none⟩ ∧ lo ≤ k ∧ w.cell? ⟨k, i, none⟩ = some (.int .i64 (x.2 : Int)))
theorem RFn.keep {lo lo' : Nat} {w w' : World} {g : FnT} {X : Nat} (h : RFn lo w g X) (hl : lo' ≤ lo) (hk : ∀ b, lo ≤ b → b < w.heap.size → w'.heap[b]? = w.heap[b]?) : RFn lo' w' g X := by
  obtain ⟨am, cm, aw, cw, pb, h1, h2, hcm, h3, h4, h5⟩ := h
  refine ⟨am, cm, aw, cw, pb, Nat.le_trans hl h1, (hk X h1 (Array.getElem?_eq_some_iff.1 h2).1).trans h2, hcm, (h3.keep hk).mono hl, fun i x hx => ?_, fun i x hx => ?_⟩
  · obtain ⟨k, k1, k2, k3⟩ := h4 i x hx
    exact ⟨k, k1, Nat.le_trans hl k2, (World.cell?_of_block (a := ⟨k, i, none⟩) (hk k k2 (World.block_lt_of_cell? _ _ k3))).trans k3⟩
  · obtain ⟨k, k1, k2, k3⟩ := h5 i x hx
    exact ⟨k, k1, Nat.le_trans hl k2, (World.cell?_of_block (a := ⟨k, i, none⟩) (hk k k2 (World.block_lt_of_cell? _ _ k3))).trans k3⟩
/-- a function that is being made, while the text is read on -/
structure RgFS {α : Type} (R : Nat) (T : ByteArray) (w : World) (X : Nat) (W : World) (q : Res α) (nm : ByteArray) (A : Int) (mv wv bv : Value) : Prop where
  fr : Fr R w W
  rm : RgW W R T q 0
  xb : W.heap[X]? = some (.cells #[.string nm, .int .i64 A, mv, wv, bv] 42 (0, 0))
  hX : w.heap.size ≤ X
  hR : R < w.heap.size
section
variable {α β : Type} {R X : Nat} {T nm : ByteArray} {w W W' : World} {q : Res α} {q' : Res β} {A : Int} {mv wv bv : Value}
theorem RgFS.lt (h : RgFS R T w X W q nm A mv wv bv) : X < W.heap.size := (Array.getElem?_eq_some_iff.1 h.xb).1
theorem RgFS.step (h : RgFS R T w X W q nm A mv wv bv) (f : Fr R W W') (m : RgW W' R T q' 0) : RgFS R T w X W' q' nm A mv wv bv :=
  ⟨h.fr.trans f, m, (f.2 X h.lt (by have := h.hX; have := h.hR; omega)).trans h.xb, h.hX, h.hR⟩
theorem RgFS.alloc (h : RgFS R T w X W q nm A mv wv bv) (o : Obj) : RgFS R T w X (W.alloc o) q nm A mv wv bv :=
  h.step (Fr.below ((Below.refl _ _).alloc (Nat.le_refl _) _) (Nat.le_of_lt h.rm.lt)) (h.rm.keep (((Below.refl _ _).alloc (Nat.le_refl _) _).block _ h.rm.lt))
theorem RgFS.drew (h : RgFS R T w X W q nm A mv wv bv) : RgFS R T w X W.drew q nm A mv wv bv := ⟨h.fr.drew, h.rm.keep rfl, h.xb, h.hX, h.hR⟩
theorem RgFS.grown {o : Option Nat} {base : Nat} (h : RgFS R T w X W q nm A mv wv bv) (hg : W.grownBy W' o) (ho : ∀ k, o = some k → base ≤ k) (hb : X < base) : RgFS R T w X W' q nm A mv wv bv := by
  have hR' : some R ≠ o := fun e => by have := ho R e.symm; have := h.hX; have := h.hR; omega
  have hX' : some X ≠ o := fun e => by have := ho X e.symm; omega
  exact ⟨h.fr.grown hg (fun k e => by have := ho k e; have := h.hX; omega) h.hR, h.rm.keep (hg.block R h.rm.lt hR'), (hg.block X h.lt hX').trans h.xb, h.hX, h.hR⟩
theorem RgFS.put0 (h : RgFS R T w X W q nm A mv wv bv) (z : ByteArray) : RgFS R T w X (W.setCell ⟨X, 0, none⟩ (.string z)) q z A mv wv bv :=
  ⟨h.fr.setNew h.hX h.hR 0 _, h.rm.keep (heap_setCell_other _ _ _ _ (by show R ≠ X; have := h.hX; have := h.hR; omega)), heap_setCell_same _ X 0 _ _ _ h.xb, h.hX, h.hR⟩
theorem RgFS.put1 (h : RgFS R T w X W q nm A mv wv bv) (z : Int) : RgFS R T w X (W.setCell ⟨X, 1, none⟩ (.int .i64 z)) q nm z mv wv bv :=
  ⟨h.fr.setNew h.hX h.hR 1 _, h.rm.keep (heap_setCell_other _ _ _ _ (by show R ≠ X; have := h.hX; have := h.hR; omega)), heap_setCell_same _ X 1 _ _ _ h.xb, h.hX, h.hR⟩
theorem RgFS.put2 (h : RgFS R T w X W q nm A mv wv bv) (z : Value) : RgFS R T w X (W.setCell ⟨X, 2, none⟩ z) q nm A z wv bv :=
  ⟨h.fr.setNew h.hX h.hR 2 _, h.rm.keep (heap_setCell_other _ _ _ _ (by show R ≠ X; have := h.hX; have := h.hR; omega)), heap_setCell_same _ X 2 _ _ _ h.xb, h.hX, h.hR⟩
theorem RgFS.put3 (h : RgFS R T w X W q nm A mv wv bv) (z : Value) : RgFS R T w X (W.setCell ⟨X, 3, none⟩ z) q nm A mv z bv :=
  ⟨h.fr.setNew h.hX h.hR 3 _, h.rm.keep (heap_setCell_other _ _ _ _ (by show R ≠ X; have := h.hX; have := h.hR; omega)), heap_setCell_same _ X 3 _ _ _ h.xb, h.hX, h.hR⟩
theorem RgFS.put4 (h : RgFS R T w X W q nm A mv wv bv) (z : Value) : RgFS R T w X (W.setCell ⟨X, 4, none⟩ z) q nm A mv wv z :=
  ⟨h.fr.setNew h.hX h.hR 4 _, h.rm.keep (heap_setCell_other _ _ _ _ (by show R ≠ X; have := h.hX; have := h.hR; omega)), heap_setCell_same _ X 4 _ _ _ h.xb, h.hX, h.hR⟩
theorem RgFS.c0 (h : RgFS R T w X W q nm A mv wv bv) : W.cell? ⟨X, 0, none⟩ = some (.string nm) := by simp [World.cell?, h.xb]
theorem RgFS.c1 (h : RgFS R T w X W q nm A mv wv bv) : W.cell? ⟨X, 1, none⟩ = some (.int .i64 A) := by simp [World.cell?, h.xb]
theorem RgFS.c2 (h : RgFS R T w X W q nm A mv wv bv) : W.cell? ⟨X, 2, none⟩ = some mv := by simp [World.cell?, h.xb]
theorem RgFS.c3 (h : RgFS R T w X W q nm A mv wv bv) : W.cell? ⟨X, 3, none⟩ = some wv := by simp [World.cell?, h.xb]
theorem RgFS.c4 (h : RgFS R T w X W q nm A mv wv bv) : W.cell? ⟨X, 4, none⟩ = some bv := by simp [World.cell?, h.xb]
theorem RgFS.fz (h : RgFS R T w X W q nm A mv wv bv) (i : Nat) : W.frozen? ⟨X, i, none⟩ = false := frozen_of_row W X i _ _ h.xb
end
/-- names in brackets, and where they stand, in two rows of the call's own -/
structure RgRow (base : Nat) (w : World) (mv wv : Value) (n : Nat) (xs : List (List UInt8 × Nat)) : Prop where
  m : w.ownsRow base 9 1 mv n (xs.map fun x => .string (bs x.1))
  s : w.ownsRow base 3 1 wv n (xs.map fun x => .int .i64 (x.2 : Int))
  ne : ∀ k, mv.ownBlock = some k → ¬ wv.ownBlock = some k
theorem RgRow.fr {R base n : Nat} {w w' : World} {mv wv : Value} {xs : List (List UInt8 × Nat)} (h : RgRow base w mv wv n xs) (f : Fr R w w') (hb : R < base) : RgRow base w' mv wv n xs := ⟨ownsRow_fr h.m f hb, ownsRow_fr h.s f hb, h.ne⟩
theorem RgRow.len {base n : Nat} {w : World} {mv wv : Value} {xs : List (List UInt8 × Nat)} (h : RgRow base w mv wv n xs) : n = xs.length := by have := h.m.1; simpa using this.symm
theorem RgRow.nil (base : Nat) (w : World) : RgRow base w (.slice none 0 0) (.slice none 0 0) 0 [] := ⟨World.ownsRow_nil _ _ _ _, World.ownsRow_nil _ _ _ _, fun k h => by simp [Value.ownBlock] at h⟩
/-- what is left of the row when the function is made -/
theorem ownsRow_room {base : Nat} {w : World} {e : TypeId} {k n c : Nat} {a : Option Addr} {xs : List Value} (h : w.ownsRow base e k (.slice a n c) n xs) : n ≤ c := by
  rcases h.2 with ⟨e1, h0⟩ | ⟨g, cap, cur, e1, hbs, hg, rest⟩
  · omega
  · injection e1 with _ _ e3
    have := rest.1
    first | omega | (subst e3; omega)
theorem ownsRow_none {base : Nat} {w : World} {e : TypeId} {k n c : Nat} {a : Option Addr} {xs : List Value} (h : w.ownsRow base e k (.slice a n c) n xs) : a = none → n = 0 ∧ c = 0 := by
  intro ha
  rcases h.2 with ⟨e1, h0⟩ | ⟨g, cap, cur, e1, _⟩
  · injection e1 with _ _ e3
    exact ⟨h0, e3⟩
  · injection e1 with e2
    rw [ha] at e2; cases e2
theorem ownsRow_at {base : Nat} {w : World} {e : TypeId} {n c : Nat} {a : Option Addr} {xs : List Value} (h : w.ownsRow base e 1 (.slice a n c) n xs) (i : Nat) (v : Value) (hi : xs[i]? = some v) : ∃ k, a = some ⟨k, 0, none⟩ ∧ base ≤ k ∧ w.cell? ⟨k, i, none⟩ = some v := by
  rcases h.2 with ⟨e1, h0⟩ | ⟨g, cap, cur, e1, hbs, hg, rest⟩
  · have h1 := h.1
    have h2 := (List.getElem?_eq_some_iff.1 hi).1
    rw [h0] at h1
    omega
  · injection e1 with e2 e3 e4
    subst e2
    have h5 := h.cells (g := g) rfl i v hi
    have hadd : (⟨g, 0, none⟩ : Addr).add i = ⟨g, i, none⟩ := by unfold Addr.add; split <;> simp_all
    rw [hadd] at h5
    exact ⟨g, rfl, hbs, h5⟩

end Go.Proofs.YthemehdcakimgaiGreatDoor
