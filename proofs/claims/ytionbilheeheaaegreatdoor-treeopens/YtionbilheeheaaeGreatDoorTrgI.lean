/- Package tree: slices.ContainsFunc of a group's lacks. -/
import Derived.Test.YtionbilheeheaaeGreatDoorTrgH
namespace Go.Proofs.YtionbilheeheaaeGreatDoor
open Go.RowKit

def lackb (a b : Nat) (x : Int) : Bool := decide (x < (a : Int)) || decide ((b : Int) ≤ x)
theorem any_of {a b : Nat} {l : List Int} {k : Nat} (hk : k < l.length) (h : lackb a b (zat l k) = true) : l.any (lackb a b) = true := List.any_eq_true.2 ⟨zat l k, zat_mem hk, h⟩
theorem any_not {a b : Nat} {l : List Int} (h : ∀ j, j < l.length → lackb a b (zat l j) = false) : l.any (lackb a b) = false := by
  rw [List.any_eq_false]
  intro x hx
  obtain ⟨j, hj, rfl⟩ := mem_zat hx
  rw [h j hj]
  simp

set_option maxRecDepth 100000 in
set_option maxHeartbeats 2000000 in
theorem index_any (a b : Nat) (cap : Nat) (av : Option Addr) (l : List Int) (w : World) (hlen : l.length ≤ 281474976710656) (hrow : RowB w.heap.size w av l) :
    Calls Tryz.prog 50 #[.slice av l.length cap, .func (Fn.func 22) #[.agg #[.int .i64 (a : Int), .int .i64 (b : Int)]] #[]] w fun e w' => (∃ r : Int, e = .returned (.int .i64 r) ∧ decide (0 ≤ r) = l.any (lackb a b)) ∧ Below w.heap.size w w' := by
  have HR := hid hrow
  obtain ⟨n, hn⟩ : ∃ n, n = l.length := ⟨_, rfl⟩
  rw [← hn] at hlen ⊢
  have HN := hid hn
  clear hrow hn
  have HLA : Hid (∀ (x : Int) (W : World), Calls Tryz.prog 22 #[.agg #[.int .i64 (a : Int), .int .i64 (b : Int)], .int .i64 x] W fun e w' => e = .returned (.bool (lackb a b x)) ∧ Below W.heap.size W w') := fun x W => lacks_any a b x W
  go_enter Tryz.func50, Tryz.ntmps50
  go_wp2_with fail
  go_loopw [8] (fun iv wr => ∃ k : Nat, k ≤ n ∧ iv = .int .i64 k ∧ Hid ((∀ j, j < k → lackb a b (zat l j) = false) ∧ Below w.heap.size w wr)) (fun iv _ => n - (intOf iv).toNat)
  case atStart => exact ⟨0, by omega, rfl, fun j hj => by omega, Below.refl _ _⟩
  case round =>
    obtain ⟨k, hk, rfl, hC⟩ := hrel
    by_cases hlt : k < n
    · have hlt2 : (k : Int) < (n : Int) := by omega
      have hks : IntKind.i64.wrap ((k : Int) + 1) = (k : Int) + 1 := by rw [IntKind.wrap_i64]; omega
      obtain ⟨bl, ol, rfl, hbl', hcl⟩ := HR.out k (by rw [← HN.out]; exact hlt)
      have hcl2 := (hC.out.2.cell (p := ⟨bl, ol + k, none⟩) hbl').trans hcl
      have HB := hid hC.out.2
      have HP := hid hC.out.1
      have hLA := HLA.out (zat l k) wr
      have HZ : Hid (lackb a b (zat l k) = true → l.any (lackb a b) = true) := fun h => any_of (by rw [← HN.out]; exact hlt) h
      have HZ2 : Hid (lackb a b (zat l k) = false → ∀ j, j < k + 1 → lackb a b (zat l j) = false) := fun h j hj => by
        rcases Nat.lt_or_ge j k with h' | h'
        · exact HP.out j h'
        · rw [show j = k by omega]; exact h
      clear hcl hbl' hC
      generalize zat l k = x at *
      cases hb : lackb a b x with
      | true =>
        rw [hb] at hLA
        have hLA2 := hid hLA
        clear hLA
        go_wp2_with fail
        refine hLA2.out.mono ?_
        rintro e w1 ⟨rfl, hb1⟩
        have HE : Hid (Below w.heap.size w w1) := HB.out.trans (hb1.mono HB.out.size)
        have HZ3 := hid (HZ.out hb)
        clear hb1
        go_wp2_with fail
        go_ret
        refine ⟨⟨(k : Int), rfl, ?_⟩, HE.out⟩
        rw [HZ3.out]
        simp
      | false =>
        rw [hb] at hLA
        have hLA2 := hid hLA
        clear hLA
        go_wp2_with fail
        refine hLA2.out.mono ?_
        rintro e w1 ⟨rfl, hb1⟩
        have HE : Hid ((∀ j, j < k + 1 → lackb a b (zat l j) = false) ∧ Below w.heap.size w w1) := ⟨HZ2.out hb, HB.out.trans (hb1.mono HB.out.size)⟩
        clear hb1
        go_wp2_with fail
        go_roundw
        case rel => exact ⟨k + 1, by omega, by go_num, HE⟩
        case measure => simp [intOf]; omega
    · obtain rfl : k = n := by omega
      have HE := hC
      clear hC
      go_wp2_with fail
      go_ret
      refine ⟨⟨-1, rfl, ?_⟩, HE.out.2⟩
      rw [any_not (fun j hj => HE.out.1 j (by rw [HN.out]; exact hj))]
      simp

set_option maxRecDepth 100000 in
theorem contains_any (a b : Nat) (cap : Nat) (av : Option Addr) (l : List Int) (w : World) (hlen : l.length ≤ 281474976710656) (hrow : RowB w.heap.size w av l) :
    Calls Tryz.prog 21 #[.slice av l.length cap, .func (Fn.func 22) #[.agg #[.int .i64 (a : Int), .int .i64 (b : Int)]] #[]] w fun e w' => e = .returned (.bool (l.any (lackb a b))) ∧ Below w.heap.size w w' := by
  have HI := hid (index_any a b cap av l w hlen hrow)
  clear hrow
  go_enter Tryz.func21, Tryz.ntmps21
  go_wp2_with fail
  refine HI.out.mono ?_
  rintro e w1 ⟨⟨r, rfl, hr⟩, hb⟩
  have HRR := hid hr
  have HB := hid hb
  clear hr hb
  go_wp2_with fail
  go_ret
  exact ⟨by rw [← HRR.out]; rfl, HB.out⟩

end Go.Proofs.YtionbilheeheaaeGreatDoor
