/- Package tree: a walk's root. -/
import Derived.Test.YtionbilheeheaaeGreatDoorTrgC
namespace Go.Proofs.YtionbilheeheaaeGreatDoor
open Go.RowKit

/-- what is found is right -/
def Snd (M : Nat → Nat → Option (List Int)) (D : Nat → Nat → List Int) : Prop := ∀ a b d, M a b = some d → d = D a b
/-- what was found stays -/
def Sub (M M' : Nat → Nat → Option (List Int)) : Prop := ∀ a b, M a b ≠ none → M' a b ≠ none
/-- of what is new both parts are found -/
def ClM (M M' : Nat → Nat → Option (List Int)) : Prop := ∀ a b, M' a b ≠ none → M a b ≠ none ∨ (2 ≤ b - a ∧ M' a (a + lft (b - a)) ≠ none ∧ M' (a + lft (b - a)) b ≠ none)

/-- the first of a walk's root: is it found? -/
structure RootW (w W1 : World) (g B s x y : Nat) (M : Nat → Nat → Option (List Int)) : Prop where
  below : Below w.heap.size w W1
  size : W1.heap.size = w.heap.size + 2
  key : W1.rowIs w.heap.size 55 2 (duo (.int .i64 (x : Int)) (.int .i64 (y : Int)))
  res : ArrI W1 (w.heap.size + 1) 70 4 (fun _ => 0)
  map : MapIs W1 B M
  c1 : W1.cell? ⟨g, 1, none⟩ = some (.map (some B))
theorem rootW_new {w : World} {g B s x y : Nat} {M : Nat → Nat → Option (List Int)} (hw : WlkAt w g B s) (hM : MapIs w B M) : RootW w ((w.alloc (.cells #[.int .i64 (x : Int), .int .i64 (y : Int)] 55)).alloc (.cells #[.int .i64 0, .int .i64 0, .int .i64 0, .int .i64 0] 70)) g B s x y M := by
  have hb : Below w.heap.size w ((w.alloc (.cells #[.int .i64 (x : Int), .int .i64 (y : Int)] 55)).alloc (.cells #[.int .i64 0, .int .i64 0, .int .i64 0, .int .i64 0] 70)) := ((Below.refl _ _).alloc (Nat.le_refl _) _).alloc (by simp) _
  exact ⟨hb, by simp, (duo_new w _ _ _).alloc _, ArrI.new2 w _ 4 70 (fun _ => 0), hM.below hb hM.lt, (hb.cell (p := ⟨g, 1, none⟩) hw.lt).trans hw.c1⟩

set_option maxRecDepth 100000 in
set_option maxHeartbeats 2000000 in
theorem wroot_found (s g B x y : Nat) (dl : List Int) (M : Nat → Nat → Option (List Int)) (w : World) (hw : WlkAt w g B s) (hM : MapIs w B M) (hx : x ≤ 1000000) (hy : y ≤ 1000000) (hd : M x y = some dl) :
    Calls Tryz.prog 31 #[.pointer (some ⟨g, 0, none⟩), gk x y] w fun e w' => e = .returned (.agg (an 4 (zat dl))) ∧ Below w.heap.size w w' := by
  unfold gk
  have HR := hid (rootW_new (x := x) (y := y) hw hM)
  have hgl := hw.lt
  have hBl := hM.lt
  clear hw hM
  go_enter Tryz.func31, Tryz.ntmps31
  go_wp2_with fail
  generalize (w.alloc (.cells #[.int .i64 (x : Int), .int .i64 (y : Int)] 55)).alloc (.cells #[.int .i64 0, .int .i64 0, .int .i64 0, .int .i64 0] 70) = W1 at *
  have hsz := HR.out.size
  have HK : Hid (∀ W, Below W1.heap.size W1 W → W.cell? ⟨g, 1, none⟩ = some (.map (some B)) ∧ W.cell? ⟨w.heap.size, 0, none⟩ = some (.int .i64 (x : Int)) ∧ W.cell? ⟨w.heap.size, 1, none⟩ = some (.int .i64 (y : Int)) ∧ W.heap[B]? = W1.heap[B]?) := fun W h =>
    ⟨(h.cell (p := ⟨g, 1, none⟩) (by show g < _; omega)).trans HR.out.c1, (h.cell (p := ⟨w.heap.size, 0, none⟩) (by show w.heap.size < _; omega)).trans (HR.out.key.cell (i := 0) (by omega)), (h.cell (p := ⟨w.heap.size, 1, none⟩) (by show w.heap.size < _; omega)).trans (HR.out.key.cell (i := 1) (by omega)), h.block B (by omega)⟩
  have hLk : ∀ W, W.heap[B]? = W1.heap[B]? → (Instr.lookup 97 (.map (some B)) (.agg #[.int .i64 (x : Int), .int .i64 (y : Int)]) true).run Tryz.prog W = .ok (.tuple #[.agg #[.int .i64 (zat dl 0), .int .i64 (zat dl 1), .int .i64 (zat dl 2), .int .i64 (zat dl 3)], .bool true]) W := fun W h => by
    have := (HR.out.map.block h).lookup (a := x) (b := y) (by omega) (by omega) true
    rw [hd, show gotv M x y = zat dl from by unfold gotv; rw [hd], an4] at this
    exact this
  go_region_held3 (fun w' => w'.cell? ⟨g, 1, none⟩ = some (.map (some B)) ∧ w'.cell? ⟨w.heap.size, 0, none⟩ = some (.int .i64 (x : Int)) ∧ w'.cell? ⟨w.heap.size, 1, none⟩ = some (.int .i64 (y : Int)) ∧ w'.heap[B]? = W1.heap[B]?)
    (first | exact HK.out _ (Below.refl _ _).drew | exact HK.out _ ((Below.refl _ _).drew.alloc (Nat.le_refl _) _)) (fail)
  all_goals (
    have HAd := hid (ArrI.new W1 4 70 (zat dl)).drew
    rw [an4, hsz] at HAd
    have HAr := hid (HR.out.res.alloc (.cells #[.int .i64 (zat dl 0), .int .i64 (zat dl 1), .int .i64 (zat dl 2), .int .i64 (zat dl 3)] 70)).drew
    have HBe : Hid (Below w.heap.size w (W1.alloc (.cells #[.int .i64 (zat dl 0), .int .i64 (zat dl 1), .int .i64 (zat dl 2), .int .i64 (zat dl 3)] 70)).drew) := (HR.out.below.alloc (by omega) _).drew
    clear HK hLk HR hsz
    generalize (W1.alloc (.cells #[.int .i64 (zat dl 0), .int .i64 (zat dl 1), .int .i64 (zat dl 2), .int .i64 (zat dl 3)] 70)).drew = W2 at *
    go_wp2_with (first
        | (refine wpList_load_an rfl 70 _ rfl _ rfl _ _ _ _ _ HAd.out Tryz.underlying70 (by kernel_rfl) ?_)
        | (refine wpList_store_an rfl 70 _ _ rfl _ _ _ _ rfl rfl _ HAr.out (by kernel_rfl) ?_))
    refine bodyPost_ret (results_an rfl _ _ (w.heap.size + 1) 70 4 _ _ (zat dl) rfl (HAr.out.setRow _) Tryz.underlying70 (by kernel_rfl)) rfl ?_
    exact ⟨rfl, below_setRow HBe.out (by omega) _⟩)

end Go.Proofs.YtionbilheeheaaeGreatDoor
