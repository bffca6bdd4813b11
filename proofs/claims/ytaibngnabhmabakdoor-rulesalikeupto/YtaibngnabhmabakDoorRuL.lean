/- Package rules: the column of products. -/
import Derived.Test.YtaibngnabhmabakDoorBaAN
import Derived.Test.YtaibngnabhmabakDoorBaAO
import Derived.Test.YtaibngnabhmabakDoorInvsB
import Derived.Deep.OwnRows
namespace Go.Proofs.YtaibngnabhmabakDoor
open Go.RowKit

theorem nb_red (p : Nat) (y : Int) (c : Int × Int) : nb p y (red p c) = nb p y c := by
  unfold nb red
  simp only
  rw [Int.add_emod, Int.emod_emod_of_dvd _ (Int.dvd_refl _), Int.mul_emod (c.2 % (p : Int)), Int.emod_emod_of_dvd c.2 (Int.dvd_refl _), ← Int.mul_emod, ← Int.add_emod]
theorem prd_red (p : Nat) (x y : Int) (L : List (Int × Int)) : ∀ k, k ≤ L.length → prd p x y (L.map (red p)) k = prd p x y L k
  | 0, _ => rfl
  | k + 1, h => by
    have e : cat (L.map (red p)) k = red p (cat L k) := by simp [cat, show k < L.length by omega]
    rw [prd, prd, prd_red p x y L k (by omega), e, nb_red]
/-- what the pairs of a row make, in one order -/
def pab (q : Nat) (rows : List (List Int)) (x y : Int) (a v i : Nat) : Int := prd q x y (rw4 (rat rows i) a v) 4
theorem pab_bd {q : Nat} (h3 : 3 ≤ q) (rows : List (List Int)) (x y : Int) (a v i : Nat) : 0 ≤ pab q rows x y a v i ∧ pab q rows x y a v i < q := prd_bd h3 x y _ 4
/-- the column -/
def pcol (q : Nat) (rows : List (List Int)) (x y : Int) : Nat → Int
  | 0 => 1
  | i + 1 => pcol q rows x y i * (pab q rows x y 3 7 i * (invn q (pab q rows x y 12 16 i) : Int) % (q : Int)) % (q : Int)
theorem pcol_bd {q : Nat} (h3 : 3 ≤ q) (rows : List (List Int)) (x y : Int) : ∀ i, 0 ≤ pcol q rows x y i ∧ pcol q rows x y i < q
  | 0 => ⟨(by show (0 : Int) ≤ 1; decide), (by show (1 : Int) < q; omega)⟩
  | i + 1 => emod_bounds _ q h3
/-- no factor is 0 -/
def noz (q : Nat) (rows : List (List Int)) (x y : Int) : Prop := rows.length ≠ 0 ∧ allGe 20 rows ∧ ∀ i, i < rows.length → pab q rows x y 3 7 i ≠ 0 ∧ pab q rows x y 12 16 i ≠ 0
/-- numbers, one after another; the first k of them alone -/
def ivF (f : Nat → Int) (k i : Nat) : Value := .int .i64 (if i < k then f i else 0)
/-- what Product answers -/
def PdR (q : Nat) (rows : List (List Int)) (x y : Int) (w : World) (e : Ending) (w' : World) : Prop := Below w.heap.size w w' ∧ ((noz q rows x y ∧ ∃ a c, e = .returned (.tuple #[.slice a rows.length c, .bool true]) ∧ Lst w'.heap.size w' a c (ls (pcol q rows x y) rows.length)) ∨ (¬ noz q rows x y ∧ e = .returned (.tuple #[.slice none 0 0, .bool false])))

def IxR (f : Nat → Int) (n : Nat) (w : World) (e : Ending) (w' : World) : Prop := w' = w ∧ ((∃ i : Nat, e = .returned (.int .i64 i) ∧ i < n ∧ f i = 0) ∨ (e = .returned (.int .i64 (-1)) ∧ ∀ i, i < n → f i ≠ 0))
set_option maxHeartbeats 1000000 in
theorem sindex_any (g n c : Nat) (f : Nat → Int) (w : World) (h : w.rowIs g 3 n (ivF f n)) (hn : n ≤ 281474976710656) :
    Calls Tryd.prog 45 #[.slice (some ⟨g, 0, none⟩) n c, .int .i64 0] w (IxR f n w) := by
  have HR := hid h
  obtain ⟨R, hR⟩ : ∃ R, R = IxR f n w := ⟨_, rfl⟩
  rw [← hR]
  have HRR : Hid (∀ e w', IxR f n w e w' → R e w') := fun e w' h => by rw [hR]; exact h
  clear h hR
  go_enter Tryd.func45, Tryd.ntmps45
  go_wp2_with fail
  go_loop [5, 8] (fun _ iv => ∃ i : Nat, i ≤ n ∧ iv = .int .i64 i ∧ Hid (∀ k, k < i → f k ≠ 0)) (fun _ iv => n - (intOf iv).toNat)
  case atStart => exact ⟨0, Nat.zero_le _, rfl, fun k hk => by omega⟩
  case round =>
    obtain ⟨i, hi, rfl, HZ⟩ := hrel
    by_cases hlt : i < n
    · have hlt2 : (i : Int) < (n : Int) := by omega
      have his : IntKind.i64.wrap ((i : Int) + 1) = (i : Int) + 1 := by rw [IntKind.wrap_i64]; omega
      have hc := HR.out.cell hlt
      have hv : ivF f n i = .int .i64 (f i) := by unfold ivF; rw [if_pos hlt]
      rw [hv] at hc
      clear hv
      by_cases h0 : f i = 0
      · have hb : ((0 : Int) == f i) = true := by simp [h0]
        have HE : Hid (IxR f n w (.returned (.int .i64 (i : Int))) w) := ⟨rfl, .inl ⟨i, rfl, hlt, h0⟩⟩
        clear h0
        generalize f i = fi at *
        go_wp2_with fail
        exact HRR.out _ _ HE.out
      · have hb : ((0 : Int) == f i) = false := by rw [beq_eq_false_iff_ne]; exact fun e => h0 e.symm
        have HZ2 : Hid (∀ k, k < i + 1 → f k ≠ 0) := fun k hk => by
          by_cases e : k = i
          · subst e; exact h0
          · exact HZ.out k (by omega)
        clear h0
        generalize f i = fi at *
        go_wp2_with fail
        go_round
        case rel => exact ⟨i + 1, by omega, by go_num, HZ2⟩
        case measure => simp [intOf]; omega
    · obtain rfl : i = n := by omega
      have hlt2 : ¬ (i : Int) < (i : Int) := by omega
      have HE : Hid (IxR f i w (.returned (.int .i64 (-1))) w) := ⟨rfl, .inr ⟨rfl, HZ.out⟩⟩
      go_wp2_with fail
      exact HRR.out _ _ HE.out
/-- is one of so many 0? -/
def zB (f : Nat → Int) (n : Nat) : Bool := (List.range n).any fun i => f i == 0
theorem zB_yes {f : Nat → Int} {n i : Nat} (h : i < n) (h0 : f i = 0) : zB f n = true := by unfold zB; rw [List.any_eq_true]; exact ⟨i, by simpa using h, by simp [h0]⟩
theorem zB_no {f : Nat → Int} {n : Nat} (h : ∀ i, i < n → f i ≠ 0) : zB f n = false := by
  unfold zB
  rw [List.any_eq_false]
  intro i hi
  have := h i (by simpa using hi)
  simpa using this
theorem zB_false {f : Nat → Int} {n : Nat} (h : zB f n = false) : ∀ i, i < n → f i ≠ 0 := fun i hi h0 => by rw [zB_yes hi h0] at h; cases h
set_option maxHeartbeats 1000000 in
theorem scont_any (g n c : Nat) (f : Nat → Int) (w : World) (h : w.rowIs g 3 n (ivF f n)) (hn : n ≤ 281474976710656) :
    Calls Tryd.prog 26 #[.slice (some ⟨g, 0, none⟩) n c, .int .i64 0] w fun e w' => e = .returned (.bool (zB f n)) ∧ w' = w := by
  have HI := hid (sindex_any g n c f w h hn)
  obtain ⟨r, hr⟩ : ∃ r, r = zB f n := ⟨_, rfl⟩
  rw [← hr]
  have HR := hid hr
  clear h hr
  go_enter Tryd.func26, Tryd.ntmps26
  go_wp2_with fail
  refine HI.out.mono ?_
  rintro e w1 ⟨hw, he⟩
  have hw1 := hw.symm
  subst hw1
  rcases he with ⟨i, rfl, h1, h2⟩ | ⟨rfl, h1⟩
  · have HT : Hid (r = true) := by unfold Hid; rw [HR.out]; exact zB_yes h1 h2
    have q : (0 : Int) ≤ (i : Int) := by omega
    clear h1 h2
    go_wp2_with fail
    go_ret
    exact ⟨by rw [HT.out]; rfl, rfl⟩
  · have HT : Hid (r = false) := by unfold Hid; rw [HR.out]; exact zB_no h1
    clear h1
    go_wp2_with fail
    go_ret
    exact ⟨by rw [HT.out]; rfl, rfl⟩

end Go.Proofs.YtaibngnabhmabakDoor
