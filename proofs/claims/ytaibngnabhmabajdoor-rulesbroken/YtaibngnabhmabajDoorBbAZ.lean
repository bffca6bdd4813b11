/- Package tree: joined, hash, seeRow. Package tree: a walk's root. Package tree: a walk's root, where it is not found. Package tree: a walk's root, where it is not found: both its parts' roots. -/
import Derived.Test.YtaibngnabhmabajDoorTrgs
import Derived.Test.YtaibngnabhmabajDoorBbAP
import Derived.Test.YtaibngnabhmabajDoorBbAO
namespace Go.Proofs.YtaibngnabhmabajDoor
open Go.RowKit

theorem flat_snoc {rows : List (List Int)} {k : Nat} (h : k < rows.length) : (rows.take (k + 1)).flatten = (rows.take k).flatten ++ rat rows k := by
  have e : rows.take (k + 1) = rows.take k ++ [rat rows k] := by
    rw [List.take_add_one, List.getElem?_eq_getElem h]
    unfold rat
    rw [List.getD_eq_getElem?_getD, List.getElem?_eq_getElem h]
    rfl
  rw [e, List.flatten_append]
  simp
theorem flat_le {rows : List (List Int)} (k : Nat) : (rows.take k).flatten.length ≤ rows.flatten.length := by
  have := congrArg (fun l => (List.flatten l).length) (List.take_append_drop k rows)
  simp only [List.flatten_append, List.length_append] at this
  omega

theorem hidK {α β : Type} {A B : α → β → Prop} {C : α → β → Prop} (h : ∀ x y, Hid (A x y) → B x y → C x y) : ∀ x y, A x y → B x y → C x y := fun x y a b => h x y a b

theorem an4 (f : Nat → Int) : an 4 f = #[.int .i64 (f 0), .int .i64 (f 1), .int .i64 (f 2), .int .i64 (f 3)] := rfl

theorem arr4_set {W : World} {g : Nat} {t : TypeId} {f : Nat → Int} (h : ArrI W g t 4 f) (G : Nat → Int) : ArrI ((((W.setCell ⟨g, 0, none⟩ (.int .i64 (G 0))).setCell ⟨g, 1, none⟩ (.int .i64 (G 1))).setCell ⟨g, 2, none⟩ (.int .i64 (G 2))).setCell ⟨g, 3, none⟩ (.int .i64 (G 3))) g t 4 G :=
  ((((h.set 0 (G 0)).set 1 (G 1)).set 2 (G 2)).set 3 (G 3)).congr (fun j hj => by
    have : j = 0 ∨ j = 1 ∨ j = 2 ∨ j = 3 := by omega
    rcases this with rfl | rfl | rfl | rfl <;> rfl)

theorem lstR_one {w : World} {a : Option Addr} {cap : Nat} {row : List Int} (hl : Lst w.heap.size w a cap row) : LstR (w.heap.size + 1) (w.drew.alloc (.cells #[.slice a row.length cap] 42)) (some ⟨w.heap.size, 0, none⟩) 1 [row] := by
  have hb : Below w.heap.size w (w.drew.alloc (.cells #[.slice a row.length cap] 42)) := (Below.refl _ _).drew.alloc (Nat.le_refl _) _
  refine ⟨fun k hk => ?_, Nat.le_refl _, fun h => by cases h⟩
  obtain rfl : k = 0 := by simp at hk; omega
  refine ⟨w.heap.size, 0, a, cap, rfl, by omega, ?_, (hl.below hb).mono (by omega)⟩
  have := heap_alloc_new w.drew (.cells #[.slice a row.length cap] 42)
  unfold World.cell?
  rw [show (w.drew.alloc (.cells #[.slice a row.length cap] 42)).heap[(⟨w.heap.size, 0 + 0, none⟩ : Addr).block]? = some (.cells #[.slice a row.length cap] 42 (0, 0)) from this]
  rfl

end Go.Proofs.YtaibngnabhmabajDoor

namespace Go.Proofs.YtaibngnabhmabajDoor
open Go.RowKit

/-- what is found is right -/
def Snd (M : Nat → Nat → Option (List Int)) (D : Nat → Nat → List Int) : Prop := ∀ a b d, M a b = some d → d = D a b
/-- what was found stays -/
def Sub (M M' : Nat → Nat → Option (List Int)) : Prop := ∀ a b, M a b ≠ none → M' a b ≠ none
/-- of what is new both parts are found -/
def ClM (M M' : Nat → Nat → Option (List Int)) : Prop := ∀ a b, M' a b ≠ none → M a b ≠ none ∨ (2 ≤ b - a ∧ M' a (a + lft (b - a)) ≠ none ∧ M' (a + lft (b - a)) b ≠ none)

end Go.Proofs.YtaibngnabhmabajDoor

namespace Go.Proofs.YtaibngnabhmabajDoor
open Go.RowKit

theorem clM_trans {M M1 M2 : Nat → Nat → Option (List Int)} (h1 : ClM M M1) (hs : Sub M1 M2) (h2 : ClM M1 M2) : ClM M M2 := fun a b h => by
  rcases h2 a b h with h | h
  · rcases h1 a b h with h | ⟨e1, e2, e3⟩
    · exact .inl h
    · exact .inr ⟨e1, hs _ _ e2, hs _ _ e3⟩
  · exact .inr h
/-- the map, while its two parts are worked out -/
def PMx (D : Nat → Nat → List Int) (M : Nat → Nat → Option (List Int)) (B x m y : Nat) (u v : Bool) (W : World) : Prop :=
  ∃ M', MapIs W B M' ∧ Snd M' D ∧ Sub M M' ∧ ClM M M' ∧ (u = true → M' x m ≠ none) ∧ (v = true → M' m y ≠ none)
theorem PMx.block {D : Nat → Nat → List Int} {M : Nat → Nat → Option (List Int)} {B x m y : Nat} {u v : Bool} {W W' : World} (h : PMx D M B x m y u v W) (e : W'.heap[B]? = W.heap[B]?) : PMx D M B x m y u v W' := by
  obtain ⟨M', h1, r⟩ := h
  exact ⟨M', h1.block e, r⟩
def d4 (d : List Int) : Value := .agg #[.int .i64 (zat d 0), .int .i64 (zat d 1), .int .i64 (zat d 2), .int .i64 (zat d 3)]
theorem gb_far {W3 W : World} {B A : Nat} (h : W3.grownBy W (some B)) (hA : W3.heap.size ≤ A) (i : Nat) (v : Value) : W3.grownBy (W.setCell ⟨A, i, none⟩ v) (some B) :=
  ⟨h.os, h.tape, h.output, by have := h.size; simpa [World.setCell] using this, fun k hk hne => (Below.heap_setCell _ _ _ _ (by show k ≠ A; omega)).trans (h.block k hk hne)⟩
theorem heap_set4 (W : World) (A k : Nat) (h : k ≠ A) (v0 v1 v2 v3 : Value) : ((((W.setCell ⟨A, 0, none⟩ v0).setCell ⟨A, 1, none⟩ v1).setCell ⟨A, 2, none⟩ v2).setCell ⟨A, 3, none⟩ v3).heap[k]? = W.heap[k]? := by
  rw [Below.heap_setCell _ _ _ _ h, Below.heap_setCell _ _ _ _ h, Below.heap_setCell _ _ _ _ h, Below.heap_setCell _ _ _ _ h]

theorem getD_set_same {L : Array Bool} {i : Nat} (h : i < L.size) : (L.setIfInBounds i true).getD i false = true := by simp [h]
def rA5 (g ws w3s B x m y : Nat) (σ : Nat → Value) : Act :=
  { tmps := #[.pointer (some ⟨g, 0, none⟩), .agg #[.int .i64 (x : Int), .int .i64 (y : Int)], undef, .pointer (some ⟨ws, 0, none⟩), .pointer (some ⟨ws + 1, 0, none⟩), .pointer (some ⟨ws + 2, 0, none⟩), .bool false, .pointer (some ⟨w3s, 0, none⟩), .pointer (some ⟨w3s + 1, 0, none⟩), σ 6, σ 7, undef,
      .tuple #[.agg #[.int .i64 0, .int .i64 0, .int .i64 0, .int .i64 0], .bool false], .pointer (some ⟨g, 0, none⟩), .pointer (some ⟨g, 0, none⟩), .pointer (some ⟨g, 1, none⟩), .map (some B), .agg #[.int .i64 (x : Int), .int .i64 (y : Int)],
      .tuple #[.agg #[.int .i64 0, .int .i64 0, .int .i64 0, .int .i64 0], .bool false], .agg #[.int .i64 0, .int .i64 0, .int .i64 0, .int .i64 0], .bool false, .bool false, undef,
      .tuple #[.agg #[.int .i64 (x : Int), .int .i64 (m : Int)], .agg #[.int .i64 (m : Int), .int .i64 (y : Int)]], .agg #[.int .i64 (x : Int), .int .i64 (y : Int)],
      .tuple #[.agg #[.int .i64 (x : Int), .int .i64 (m : Int)], .agg #[.int .i64 (m : Int), .int .i64 (y : Int)]], .agg #[.int .i64 (x : Int), .int .i64 (m : Int)], .agg #[.int .i64 (m : Int), .int .i64 (y : Int)],
      σ 0, σ 1, σ 2, σ 3, σ 4, σ 5, undef, undef, undef, undef, undef, undef, undef, undef, undef, undef, undef, undef], defers := [] }

theorem ArrI.lst {W : World} {A : Nat} {t : TypeId} {d : List Int} (h : ArrI W A t 4 (zat d)) (hd : d.length = 4) : Lst W.heap.size W (some ⟨A, 0, none⟩) 4 d :=
  ⟨fun k hk => ⟨A, 0, rfl, h.lt, by rw [Nat.zero_add]; exact h.cell (by omega)⟩, by omega, fun e => by cases e⟩
theorem lstR_two {V : World} {P : Nat} {A A' : Nat} {d1 d2 : List Int} (hP : V.heap[P]? = some (.cells #[.slice (some ⟨A, 0, none⟩) 4 4, .slice (some ⟨A', 0, none⟩) 4 4] 42 (0, 0))) (h1 : Lst V.heap.size V (some ⟨A, 0, none⟩) 4 d1) (h2 : Lst V.heap.size V (some ⟨A', 0, none⟩) 4 d2) (l1 : d1.length = 4) (l2 : d2.length = 4) : LstR V.heap.size V (some ⟨P, 0, none⟩) 2 [d1, d2] := by
  have hlt : P < V.heap.size := (Array.getElem?_eq_some_iff.1 hP).1
  refine ⟨fun k hk => ?_, Nat.le_refl _, fun h => by cases h⟩
  have : k = 0 ∨ k = 1 := by simp at hk; omega
  rcases this with rfl | rfl
  · refine ⟨P, 0, some ⟨A, 0, none⟩, 4, rfl, hlt, ?_, h1⟩
    show _ = some (Value.slice (some ⟨A, 0, none⟩) d1.length 4)
    rw [l1]
    simp [World.cell?, hP]
  · refine ⟨P, 0, some ⟨A', 0, none⟩, 4, rfl, hlt, ?_, h2⟩
    show _ = some (Value.slice (some ⟨A', 0, none⟩) d2.length 4)
    rw [l2]
    simp [World.cell?, hP]

def sq : Code → Code
  | .seq _ b => b
  | c => c
theorem wp_of_eq {P : Program} {c c' : Code} {Q : Exit → Act → World → Prop} {a : Act} {w : World} (e : c' = c) (h : c.wp P Q a w) : c'.wp P Q a w := by rw [e]; exact h
/-- what a walk's root answers -/
def RootR (D : Nat → Nat → List Int) (M : Nat → Nat → Option (List Int)) (B x y : Nat) (w : World) (e : Ending) (w' : World) : Prop := e = .returned (.agg (an 4 (zat (D x y)))) ∧ (∃ M', MapIs w' B M' ∧ Snd M' D ∧ Sub M M' ∧ ClM M M' ∧ M' x y ≠ none) ∧ w.grownBy w' (some B)

end Go.Proofs.YtaibngnabhmabajDoor

namespace Go.Proofs.YtaibngnabhmabajDoor
open Go.RowKit

def fs : Code → Code
  | .seq a _ => a
  | c => c
end Go.Proofs.YtaibngnabhmabajDoor
