/- Package tree: digestOf, elements. -/
import Derived.Test.YtionbilheeheaaeGreatDoorTreF
import Derived.Test.YtionbilheeheaaeGreatDoorSpgs
namespace Go.Proofs.YtionbilheeheaaeGreatDoor
open Go.RowKit

set_option maxRecDepth 100000 in
set_option maxHeartbeats 1000000 in
theorem digestof_any (q b cap : Nat) (a : Option Addr) (l : List Int) (w : World) (h3 : 3 ≤ q) (hm : q ≤ 2147483647) (hp : w.cell? ⟨b, 0, none⟩ = some (.int .i64 q)) (hl : l.length = 4) (hfit : Fits l) (hrow : RowB w.heap.size w a l) :
    Calls Tryz.prog 64 #[.pointer (some ⟨b, 0, none⟩), .slice a 4 cap] w fun e w' => e = .returned (.agg (an 4 (fun j => zat l j % (q : Int)))) ∧ Below w.heap.size w w' := by
  have hbl : b < w.heap.size := heap_lt hp
  have HP := hid hp
  have HF := hid hfit
  have HR := hid hrow
  have HLN := hid hl
  clear hp hfit hrow hl
  go_enter Tryz.func64, Tryz.ntmps64
  go_wp2_with fail
  go_loopw [9] (fun iv wr => ∃ k : Nat, k ≤ 4 ∧ iv = .int .i64 k ∧ Hid (ArrI wr w.heap.size 70 4 (fll (fun j => zat l j % (q : Int)) (fun _ => 0) k) ∧ Below w.heap.size w wr))
    (fun iv _ => 4 - (intOf iv).toNat)
  case atStart =>
    refine ⟨0, by omega, rfl, ?_, (Below.refl _ _).alloc (Nat.le_refl _) _⟩
    rw [fll_zero]
    exact ArrI.new w 4 70 (fun _ => 0)
  case round =>
    obtain ⟨k, hk, rfl, hC⟩ := hrel
    obtain ⟨hA, hbel⟩ := hC.out
    by_cases hlt : k < 4
    · have hlt2 : (k : Int) < 4 := by omega
      have HE : Hid (ArrI (wr.setCell ⟨w.heap.size, k, none⟩ (.int .i64 (zat l k % (q : Int)))) w.heap.size 70 4 (fll (fun j => zat l j % (q : Int)) (fun _ => 0) (k + 1)) ∧ Below w.heap.size w (wr.setCell ⟨w.heap.size, k, none⟩ (.int .i64 (zat l k % (q : Int))))) :=
        ⟨hA.next, hbel.setCell (p := ⟨w.heap.size, k, none⟩) (by simp) _⟩
      have c1 := hA.cell hlt
      have y1 := hA.frozen k
      have hks : IntKind.i64.wrap ((k : Int) + 1) = (k : Int) + 1 := by rw [IntKind.wrap_i64]; omega
      obtain ⟨bl, ol, rfl, hbl', hcl⟩ := HR.out k (by rw [HLN.out]; exact hlt)
      have hcl2 := (hbel.cell (p := ⟨bl, ol + k, none⟩) hbl').trans hcl
      obtain ⟨hx1, hx2⟩ := HF.out k (by rw [HLN.out]; exact hlt)
      have HMx := hid (of_any q b (zat l k) wr h3 hm ((hbel.cell (p := ⟨b, 0, none⟩) hbl).trans HP.out) hx1 hx2)
      clear hA hbel hcl hbl' hC
      generalize zat l k % (q : Int) = x at *
      generalize zat l k = y at *
      go_wp2_with fail
      refine HMx.out.mono ?_
      rintro e w1 ⟨rfl, rfl⟩
      go_wp2_with fail
      go_roundw
      case rel => exact ⟨k + 1, by omega, by go_num, HE⟩
      case measure => simp [intOf]; omega
    · obtain rfl : k = 4 := by omega
      have HE : Hid (ArrI wr w.heap.size 70 4 (fun j => zat l j % (q : Int)) ∧ Below w.heap.size w wr) := ⟨hA.congr (fun j hj => fll_all hj), hbel⟩
      clear hA hbel hC
      have HA8 := hid HE.out.1
      go_wp2_with (first
        | (refine wpList_load_an rfl 70 _ rfl _ rfl _ _ _ _ _ HA8.out Tryz.underlying70 (by kernel_rfl) ?_)
        | (refine wpList_store_an rfl 70 _ _ rfl _ _ _ _ rfl rfl _ HA8.out (by kernel_rfl) ?_))
      refine bodyPost_ret (results_an rfl _ _ w.heap.size 70 4 _ _ (fun j => zat l j % (q : Int)) rfl (HA8.out.setRow _) Tryz.underlying70 (by kernel_rfl)) rfl ?_
      exact ⟨rfl, below_setRow HE.out.2 (by omega) _⟩

set_option maxRecDepth 100000 in
set_option maxHeartbeats 1000000 in
theorem elements_any (q b cap : Nat) (a : Option Addr) (l : List Int) (w : World) (h3 : 3 ≤ q) (hm : q ≤ 2147483647) (hp : w.cell? ⟨b, 0, none⟩ = some (.int .i64 q)) (hlen : l.length ≤ 17592186044400) (hfit : Fits l) (hrow : RowB w.heap.size w a l) :
    Calls Tryz.prog 26 #[.pointer (some ⟨b, 0, none⟩), .slice a l.length cap] w fun e w' => e = .returned (.slice (some ⟨w.heap.size, 0, none⟩) l.length l.length) ∧ ArrI w' w.heap.size 3 l.length (fun j => zat l j % (q : Int)) ∧ Below w.heap.size w w' := by
  have hbl : b < w.heap.size := heap_lt hp
  have HP := hid hp
  have HF := hid hfit
  have HR := hid hrow
  clear hp hfit hrow
  obtain ⟨len, hL⟩ : ∃ len, len = l.length := ⟨_, rfl⟩
  rw [← hL] at hlen ⊢
  have HLL := hid hL
  clear hL
  have hmk2 := fun w => run_make_row' (P := Tryz.prog) 23 3 (.int .i64 0) 8 Tryz.underlying23 Tryz.infoInt rfl .i64 .i64 len (by omega) (by omega) w
  go_enter Tryz.func26, Tryz.ntmps26
  go_wp2_with fail
  go_loopw [13] (fun iv wr => ∃ k : Nat, k ≤ len ∧ iv = .int .i64 k ∧ Hid (ArrI wr w.heap.size 3 len (fll (fun j => zat l j % (q : Int)) (fun _ => 0) k) ∧ Below w.heap.size w wr))
    (fun iv _ => len - (intOf iv).toNat)
  case atStart =>
    refine ⟨0, by omega, rfl, ?_, (Below.refl _ _).alloc (Nat.le_refl _) _⟩
    rw [fll_zero]
    exact World.rowIs_made _ _ _ _
  case round =>
    obtain ⟨k, hk, rfl, hC⟩ := hrel
    obtain ⟨hA, hbel⟩ := hC.out
    by_cases hlt : k < len
    · have hlt2 : (k : Int) < (len : Int) := by omega
      have HE : Hid (ArrI (wr.setCell ⟨w.heap.size, k, none⟩ (.int .i64 (zat l k % (q : Int)))) w.heap.size 3 len (fll (fun j => zat l j % (q : Int)) (fun _ => 0) (k + 1)) ∧ Below w.heap.size w (wr.setCell ⟨w.heap.size, k, none⟩ (.int .i64 (zat l k % (q : Int))))) :=
        ⟨hA.next, hbel.setCell (p := ⟨w.heap.size, k, none⟩) (by simp) _⟩
      have c1 := hA.cell hlt
      have y1 := hA.frozen k
      have hks : IntKind.i64.wrap ((k : Int) + 1) = (k : Int) + 1 := by rw [IntKind.wrap_i64]; omega
      obtain ⟨bl, ol, rfl, hbl', hcl⟩ := HR.out k (by rw [← HLL.out]; exact hlt)
      have hcl2 := (hbel.cell (p := ⟨bl, ol + k, none⟩) hbl').trans hcl
      obtain ⟨hx1, hx2⟩ := HF.out k (by rw [← HLL.out]; exact hlt)
      have HMx := hid (of_any q b (zat l k) wr h3 hm ((hbel.cell (p := ⟨b, 0, none⟩) hbl).trans HP.out) hx1 hx2)
      clear hA hbel hcl hbl' hC
      generalize zat l k % (q : Int) = x at *
      generalize zat l k = y at *
      go_wp2_with fail
      refine HMx.out.mono ?_
      rintro e w1 ⟨rfl, rfl⟩
      go_wp2_with fail
      go_roundw
      case rel => exact ⟨k + 1, by omega, by go_num, HE⟩
      case measure => simp [intOf]; omega
    · obtain rfl : k = len := by omega
      have HE : Hid (ArrI wr w.heap.size 3 k (fun j => zat l j % (q : Int)) ∧ Below w.heap.size w wr) := ⟨hA.congr (fun j hj => fll_all hj), hbel⟩
      clear hA hbel hC
      go_wp2_with fail
      go_ret
      exact ⟨rfl, HE.out.1, HE.out.2⟩

end Go.Proofs.YtionbilheeheaaeGreatDoor
