/- Package tree: a walk's root. -/
import Derived.Test.YtionbilheeheaaeGreatDoorTrgT
namespace Go.Proofs.YtionbilheeheaaeGreatDoor
open Go.RowKit

set_option maxRecDepth 100000 in
set_option maxHeartbeats 4000000 in
theorem wroot_new (q n d b s g B x y c m : Nat) (D : Nat → Nat → List Int) (M0 M : Nat → Nat → Option (List Int)) (w : World) (ok : SpgOk q n d) (hD : ∀ a b, Dgst q (D a b)) (hs : SpgAt w s b q n d) (hw : WlkAt w g B s) (hM : MapIs w B M) (hx : x ≤ 1000000) (hy : y ≤ 1000000) (hc : y = x + c) (hm : m = x + lft c) (h2 : 2 ≤ c) (hd : M x y = none) (h0 : Sub M0 M) (hsn : Snd M D)
    (hDe : D x y = digl q n (1 :: (D x m ++ D m y))) (ih1 : RootIH q n d b s g B D M0 x m) (ih2 : RootIH q n d b s g B D M0 m y) :
    Calls Tryz.prog 31 #[.pointer (some ⟨g, 0, none⟩), gk x y] w (RootR D M B x y w) := by
  have HPT : Hid (∀ W, Calls Tryz.prog 55 #[.agg #[.int .i64 (x : Int), .int .i64 (y : Int)]] W fun e w' => e = .returned (.tuple #[.agg #[.int .i64 (x : Int), .int .i64 (m : Int)], .agg #[.int .i64 (m : Int), .int .i64 (y : Int)]]) ∧ Below W.heap.size W w') := fun W => by rw [hm]; exact parts_any x y c hc hy W
  unfold gk
  have HR := hid (rootW_new (x := x) (y := y) hw hM)
  have hgl := hw.lt
  have hBl := hM.lt
  have HROOT : Hid (∀ (w3s : Nat) (W3 : World), Below w.heap.size w W3 → W3.rowIs w.heap.size 55 2 (duo (.int .i64 (x : Int)) (.int .i64 (y : Int))) → ArrI W3 (w.heap.size + 1) 70 4 (fun _ => 0) → W3.rowIs w3s 55 2 (duo (.int .i64 (x : Int)) (.int .i64 (m : Int))) → W3.rowIs (w3s + 1) 55 2 (duo (.int .i64 (m : Int)) (.int .i64 (y : Int))) → w.heap.size ≤ w3s → ∀ K : Act → World → Prop, (∀ a w', (sq (sq (sq (sq rootCode)))).wp Tryz.prog (bodyPost Tryz.prog Tryz.f31 (RootR D M B x y w)) a w' → K a w') →
      (fs (sq (sq (sq rootCode)))).wp Tryz.prog (Exit.then K (bodyPost Tryz.prog Tryz.f31 (RootR D M B x y w))) (rA5 g w.heap.size w3s B x m y (fun _ => undef)) W3) := fun w3s W3 hb hk hr hL hRr hw3 K hK =>
    root5 q n d b s g B x y c m w3s D M0 M w W3 ok hD hm hc hx hy h2 hDe ih1 ih2 h0 hsn (hM.below hb hBl) (hs.keep hb) (hw.block (hb.block _ hgl)) hk hr hL hRr (gb_below hb) hBl hw3 K hK
  clear hw hM hc hm hs hD hsn h0 hDe ih1 ih2
  go_enter Tryz.func31, Tryz.ntmps31
  go_wp2_with fail
  generalize (w.alloc (.cells #[.int .i64 (x : Int), .int .i64 (y : Int)] 55)).alloc (.cells #[.int .i64 0, .int .i64 0, .int .i64 0, .int .i64 0] 70) = W1 at *
  have hsz := HR.out.size
  have HK : Hid (∀ W, Below W1.heap.size W1 W → W.cell? ⟨g, 1, none⟩ = some (.map (some B)) ∧ W.cell? ⟨w.heap.size, 0, none⟩ = some (.int .i64 (x : Int)) ∧ W.cell? ⟨w.heap.size, 1, none⟩ = some (.int .i64 (y : Int)) ∧ W.heap[B]? = W1.heap[B]?) := fun W h =>
    ⟨(h.cell (p := ⟨g, 1, none⟩) (by show g < _; omega)).trans HR.out.c1, (h.cell (p := ⟨w.heap.size, 0, none⟩) (by show w.heap.size < _; omega)).trans (HR.out.key.cell (i := 0) (by omega)), (h.cell (p := ⟨w.heap.size, 1, none⟩) (by show w.heap.size < _; omega)).trans (HR.out.key.cell (i := 1) (by omega)), h.block B (by omega)⟩
  have hLk : ∀ W, W.heap[B]? = W1.heap[B]? → (Instr.lookup 97 (.map (some B)) (.agg #[.int .i64 (x : Int), .int .i64 (y : Int)]) true).run Tryz.prog W = .ok (.tuple #[.agg #[.int .i64 0, .int .i64 0, .int .i64 0, .int .i64 0], .bool false]) W := fun W h => by
    have := (HR.out.map.block h).lookup (a := x) (b := y) (by omega) (by omega) true
    rw [hd, show gotv M x y = (fun _ => 0) from by unfold gotv; rw [hd], an4] at this
    exact this
  go_region_held3 (fun w' => w'.cell? ⟨g, 1, none⟩ = some (.map (some B)) ∧ w'.cell? ⟨w.heap.size, 0, none⟩ = some (.int .i64 (x : Int)) ∧ w'.cell? ⟨w.heap.size, 1, none⟩ = some (.int .i64 (y : Int)) ∧ w'.heap[B]? = W1.heap[B]?)
    (first | exact HK.out _ (Below.refl _ _).drew | exact HK.out _ ((Below.refl _ _).drew.alloc (Nat.le_refl _) _)) (fail)
  all_goals (
    have HKe := hid (HR.out.key.alloc (.cells #[.int .i64 0, .int .i64 0, .int .i64 0, .int .i64 0] 70))
    have HAr := hid (HR.out.res.alloc (.cells #[.int .i64 0, .int .i64 0, .int .i64 0, .int .i64 0] 70)).drew
    have HBe : Hid (Below w.heap.size w (W1.alloc (.cells #[.int .i64 0, .int .i64 0, .int .i64 0, .int .i64 0] 70)).drew) := (HR.out.below.alloc (by omega) _).drew
    have HS2 : Hid ((W1.alloc (.cells #[.int .i64 0, .int .i64 0, .int .i64 0, .int .i64 0] 70)).drew.heap.size = w.heap.size + 3) := by unfold Hid; show (W1.alloc _).heap.size = _; simp; omega
    have hk0 : (W1.alloc (.cells #[.int .i64 0, .int .i64 0, .int .i64 0, .int .i64 0] 70)).drew.cell? ⟨w.heap.size, 0, none⟩ = some (.int .i64 (x : Int)) := HKe.out.cell (i := 0) (by omega)
    have hk1 : (W1.alloc (.cells #[.int .i64 0, .int .i64 0, .int .i64 0, .int .i64 0] 70)).drew.cell? ⟨w.heap.size, 1, none⟩ = some (.int .i64 (y : Int)) := HKe.out.cell (i := 1) (by omega)
    have HKe2 : Hid ((W1.alloc (.cells #[.int .i64 0, .int .i64 0, .int .i64 0, .int .i64 0] 70)).drew.rowIs w.heap.size 55 2 (duo (.int .i64 (x : Int)) (.int .i64 (y : Int)))) := HKe.out
    clear HK hLk HR hsz HKe
    generalize (W1.alloc (.cells #[.int .i64 0, .int .i64 0, .int .i64 0, .int .i64 0] 70)).drew = W2 at *
    go_wp2_with fail
    refine (HPT.out W2).mono ?_
    rintro e w3 ⟨rfl, hb3⟩
    have HB3 := hid (HBe.out.trans (hb3.mono (by rw [HS2.out]; omega)))
    have HAr3 := hid (HAr.out.block (hb3.block _ HAr.out.lt))
    have HK3 : Hid (w3.rowIs w.heap.size 55 2 (duo (.int .i64 (x : Int)) (.int .i64 (y : Int)))) := HKe2.out.of_block (hb3.block _ HKe2.out.lt)
    have hs3 : w.heap.size + 3 ≤ w3.heap.size := by have := hb3.size; rw [HS2.out] at this; exact this
    clear hb3 hk0 hk1 HAr HKe2 HBe HS2
    go_wp2_with fail
    have HLc := hid ((duo_new w3 55 (.int .i64 (x : Int)) (.int .i64 (m : Int))).alloc (.cells #[.int .i64 (m : Int), .int .i64 (y : Int)] 55))
    have HRc : Hid (((w3.alloc (.cells #[.int .i64 (x : Int), .int .i64 (m : Int)] 55)).alloc (.cells #[.int .i64 (m : Int), .int .i64 (y : Int)] 55)).rowIs (w3.heap.size + 1) 55 2 (duo (.int .i64 (m : Int)) (.int .i64 (y : Int)))) := by
      have := duo_new (w3.alloc (.cells #[.int .i64 (x : Int), .int .i64 (m : Int)] 55)) 55 (.int .i64 (m : Int)) (.int .i64 (y : Int))
      rwa [show (w3.alloc (.cells #[.int .i64 (x : Int), .int .i64 (m : Int)] 55)).heap.size = w3.heap.size + 1 from by simp] at this
    have HB33 : Hid (Below w3.heap.size w3 ((w3.alloc (.cells #[.int .i64 (x : Int), .int .i64 (m : Int)] 55)).alloc (.cells #[.int .i64 (m : Int), .int .i64 (y : Int)] 55))) := ((Below.refl _ _).alloc (Nat.le_refl _) _).alloc (by simp) _
    have hs4 : ((w3.alloc (.cells #[.int .i64 (x : Int), .int .i64 (m : Int)] 55)).alloc (.cells #[.int .i64 (m : Int), .int .i64 (y : Int)] 55)).heap.size = w3.heap.size + 2 := by simp
    generalize (w3.alloc (.cells #[.int .i64 (x : Int), .int .i64 (m : Int)] 55)).alloc (.cells #[.int .i64 (m : Int), .int .i64 (y : Int)] 55) = W3 at *
    have HBW : Hid (Below w.heap.size w W3) := HB3.out.trans (HB33.out.mono (by omega))
    have HAr4 := hid (HAr3.out.below HB33.out (by omega))
    have HK4 : Hid (W3.rowIs w.heap.size 55 2 (duo (.int .i64 (x : Int)) (.int .i64 (y : Int)))) := HK3.out.of_block (HB33.out.block _ (by omega))
    exact HROOT.out w3.heap.size W3 HBW.out HK4.out HAr4.out HLc.out HRc.out (by omega) _ (by assumption))

/-- a walk's root -/
theorem wroot_any (q n d b s g B : Nat) (D : Nat → Nat → List Int) (M0 : Nat → Nat → Option (List Int)) (ok : SpgOk q n d) (hD : ∀ a b, Dgst q (D a b)) {x y : Nat} (h : Rdy q n D M0 x y) (hxy : x ≤ y) (hy : y ≤ 1000000) : RootIH q n d b s g B D M0 x y := by
  induction h with
  | @found x y hf =>
    intro M w hs hw hM h0 hsn
    obtain ⟨dl, hdl⟩ := Option.ne_none_iff_exists'.1 (h0 x y hf)
    have := hsn x y dl hdl
    subst this
    refine (wroot_found s g B x y (D x y) M w hw hM (by omega) hy hdl).mono ?_
    rintro e w' ⟨rfl, hb⟩
    exact ⟨rfl, ⟨M, hM.below hb hM.lt, hsn, fun _ _ h => h, fun _ _ h => .inl h, by rw [hdl]; simp⟩, gb_below hb⟩
  | @node x y h2 hDe _ _ ih1 ih2 =>
    intro M w hs hw hM h0 hsn
    obtain ⟨_, l2, l3⟩ := lft_spec (y - x)
    have l3' := l3 h2
    cases hd : M x y with
    | some dl =>
      have := hsn x y dl hd
      subst this
      refine (wroot_found s g B x y (D x y) M w hw hM (by omega) hy hd).mono ?_
      rintro e w' ⟨rfl, hb⟩
      exact ⟨rfl, ⟨M, hM.below hb hM.lt, hsn, fun _ _ h => h, fun _ _ h => .inl h, by rw [hd]; simp⟩, gb_below hb⟩
    | none => exact wroot_new q n d b s g B x y (y - x) (x + lft (y - x)) D M0 M w ok hD hs hw hM (by omega) hy (by omega) rfl h2 hd h0 hsn hDe (ih1 (by omega) (by omega)) (ih2 (by omega) hy)

end Go.Proofs.YtionbilheeheaaeGreatDoor
