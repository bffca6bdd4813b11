/- Package sums: Extend, Fix, Total, Round. Package sums: what Make writes, step by step. The reference of package gates: Wide, Beneath, Fault. -/
import Derived.Test.YtpgnabmkfkcogaaGreatDoorGmAH
import Derived.Test.YtpgnabmkfkcogaaGreatDoorGmAJ
import Derived.Test.YtpgnabmkfkcogaaGreatDoorGmAR
import Derived.Test.YtpgnabmkfkcogaaGreatDoorGmAS
import Derived.Test.YtpgnabmkfkcogaaGreatDoorHeldS
import Derived.Test.YtpgnabmkfkcogaaGreatDoorGmAA
namespace Go.Proofs.YtpgnabmkfkcogaaGreatDoor
open Go.RowKit

end Go.Proofs.YtpgnabmkfkcogaaGreatDoor

namespace Go.Proofs.YtpgnabmkfkcogaaGreatDoor
open Go.RowKit

/-- two cells -/
def dub (a b : Value) : Nat → Value
  | 0 => a
  | _ => b
theorem dub_new (w : World) (t : TypeId) (a b : Value) : (w.alloc (.cells #[a, b] t)).rowIs w.heap.size t 2 (dub a b) :=
  ⟨#[a, b], heap_alloc_new w _, rfl, fun i hi => by
    have : i = 0 ∨ i = 1 := by omega
    rcases this with rfl | rfl <;> rfl⟩
theorem dub_arr {W : World} {g : Nat} {t : TypeId} {a b : Value} (h : W.rowIs g t 2 (dub a b)) : W.heap[g]? = some (.cells #[a, b] t (0, 0)) := by
  obtain ⟨cs, h1, h2, h4⟩ := h
  rw [h1]
  have e : cs = #[a, b] := by
    apply Array.ext
    · simpa using h2
    · intro i hi hi2
      have h0 : i = 0 ∨ i = 1 := by simp at hi2; omega
      have h5 := h4 i (by omega)
      rw [Array.getElem?_eq_getElem hi] at h5
      have h6 := Option.some.inj h5
      rw [h6]
      rcases h0 with rfl | rfl <;> rfl
  rw [e]
theorem dub_set0 {W : World} {g : Nat} {t : TypeId} {a b : Value} (h : W.rowIs g t 2 (dub a b)) (a' : Value) : (W.setCell ⟨g, 0, none⟩ a').rowIs g t 2 (dub a' b) :=
  World.rowIs.congr (World.rowIs.set h 0 a') (fun j hj => by
    have : j = 0 ∨ j = 1 := by omega
    rcases this with rfl | rfl <;> rfl)
theorem dub_set1 {W : World} {g : Nat} {t : TypeId} {a b : Value} (h : W.rowIs g t 2 (dub a b)) (b' : Value) : (W.setCell ⟨g, 1, none⟩ b').rowIs g t 2 (dub a b') :=
  World.rowIs.congr (World.rowIs.set h 1 b') (fun j hj => by
    have : j = 0 ∨ j = 1 := by omega
    rcases this with rfl | rfl <;> rfl)
theorem results_ctb {P : Program} {fn : Func} {p u : Tmp} {ty : TypeId} (h : fn.results = #[.cell p ty, .tmp u]) (tmps : Array Value) (w : World) (g : Nat) (tt : TypeId) (cs : Array Value) (fr : Nat × Nat) (d : TypeDesc)
    (hp : tmps.getD p undef = .pointer (some ⟨g, 0, none⟩)) (hg : w.heap[g]? = some (.cells cs tt fr))
    (hu : P.underlying ty = some d) (hd : (match d with | .struct _ | .array _ _ => true | _ => false) = true) (hi : (P.info? ty).map (·.size) = some cs.size) :
    (results fn tmps).run P w = .ok (.tuple #[.agg cs, tmps.getD u undef]) w := by
  have hp' : tmps[p]?.getD undef = .pointer (some ⟨g, 0, none⟩) := by simpa using hp
  simp [results, h, hp', asAddr, run_loadVar_row w g tt ty cs fr d hg hu hd hi]
end Go.Proofs.YtpgnabmkfkcogaaGreatDoor

namespace Go.Proofs.YtpgnabmkfkcogaaGreatDoor
open Go.RowKit

set_option maxRecDepth 100000 in
set_option maxHeartbeats 1000000 in
theorem rwide13_any (n : Nat) (w : World) : Calls Tryz.prog 31 #[.int .i64 (n : Int)] w fun e w' => e = .returned (.int .i64 (wdz n)) ∧ w' = w := by
  have HY : Hid (∀ k : Nat, k ≤ 6 → n = 2 ^ k → wdz n = (k : Int)) := fun k hk h => wdz_yes hk h
  have HNO : Hid ((∀ k : Nat, k < 7 → n ≠ 2 ^ k) → wdz n = -1) := fun h => wdz_no (fun v hv => h v (by omega))
  generalize wdz n = E at *
  go_enter Tryz.func31, Tryz.ntmps31
  go_wp2_with fail
  go_loop [3, 4] (fun kv iv => ∃ i : Nat, i ≤ 7 ∧ iv = .int .i64 (i : Int) ∧ (∃ X : Nat, kv = .int .i64 (X : Int) ∧ X ≤ 128 ∧ Hid (X = 2 ^ i ∧ ∀ k, k < i → n ≠ 2 ^ k))) (fun _ iv => 7 - (intOf iv).toNat)
  case atStart => exact ⟨0, by omega, rfl, 1, rfl, by omega, rfl, fun k hk => by omega⟩
  case round =>
    obtain ⟨i, hi, rfl, X, rfl, hX, hI⟩ := hrel
    by_cases hlt : i ≤ 6
    · have hlt2 : (i : Int) ≤ 6 := by omega
      have his : IntKind.i64.wrap ((i : Int) + 1) = (i : Int) + 1 := by rw [IntKind.wrap_i64]; omega
      by_cases he : X = n
      · have he2 : ((X : Int) == (n : Int)) = true := by rw [he]; exact beq_self_eq_true _
        have HE : Hid (E = (i : Int)) := HY.out i hlt (by rw [← he]; exact hI.out.1)
        clear hI he
        go_wp2_with fail
        go_ret
        exact ⟨by rw [HE.out]; rfl, rfl⟩
      · have he2 : ((X : Int) == (n : Int)) = false := by rw [beq_eq_false_iff_ne]; omega
        have hX6 : X ≤ 64 := by rw [hI.out.1]; exact pow_6 hlt
        have hw : IntKind.i64.wrap ((X : Int) * 2) = (X : Int) * 2 := by rw [IntKind.wrap_i64]; omega
        have HE : Hid (2 * X = 2 ^ (i + 1) ∧ ∀ k, k < i + 1 → n ≠ 2 ^ k) := ⟨by rw [Nat.pow_succ, hI.out.1, Nat.mul_comm], fun k hk => by
          by_cases e : k = i
          · rw [e, ← hI.out.1]; exact fun h => he h.symm
          · exact hI.out.2 k (by omega)⟩
        clear hI he
        go_wp2_with fail
        go_round
        case rel => exact ⟨i + 1, by omega, by go_num, 2 * X, by simp; omega, by omega, HE.out⟩
        case measure => simp [intOf]; omega
    · obtain rfl : i = 7 := by omega
      have HE : Hid (E = -1) := HNO.out hI.out.2
      clear hI
      go_wp2_with fail
      go_ret
      exact ⟨by rw [HE.out]; rfl, rfl⟩

set_option maxRecDepth 100000 in
set_option maxHeartbeats 1000000 in
theorem rbeneath_any (i cL : Nat) (wide : Int) (aL : Option Addr) (lys : List (List GatZ)) (w : World) (hB : CirB lys) (hl : LstGG w.heap.size w aL cL lys) (hi : i ≤ lys.length) :
    Calls Tryz.prog 84 #[.agg #[.int .i64 wide, .slice aL lys.length cL], .int .i64 (i : Int)] w fun e w' => e = .returned (.int .i64 (bnz wide lys i)) ∧ Below w.heap.size w w' := by
  have HB0 : Hid (Below w.heap.size w (w.alloc (.cells #[.int .i64 wide, .slice aL lys.length cL] 69))) := (Below.refl _ _).alloc (Nat.le_refl _) _
  have hlen := hB.len
  by_cases h0 : i = 0
  · subst h0
    rw [show bnz wide lys 0 = wide from rfl]
    generalize lys.length = n at *
    clear hl hB
    go_enter Tryz.func84, Tryz.ntmps84
    go_wp2_with fail
    go_ret
    exact ⟨rfl, HB0.out⟩
  · obtain ⟨j, hj⟩ : ∃ j, j = i - 1 := ⟨_, rfl⟩
    rw [show bnz wide lys i = wdz (lyt lys j).length from by unfold bnz; rw [if_neg h0, hj]]
    obtain ⟨bj, oj, aj, cj, rfl, hbj, hcj, _⟩ := hl.row j (by omega)
    have HW := hid (rwide13_any (lyt lys j).length (w.alloc (.cells #[.int .i64 wide, .slice (some ⟨bj, oj, none⟩) lys.length cL] 69)))
    have hk : ((i : Int) == 0) = false := by rw [beq_eq_false_iff_ne]; omega
    have hij : (i : Int) - 1 = (j : Int) := by omega
    have hjn : (j : Int) < (lys.length : Int) := by omega
    generalize wdz (lyt lys j).length = E at *
    generalize (lyt lys j).length = M at *
    generalize lys.length = n at *
    clear hl hB h0 hj
    go_enter Tryz.func84, Tryz.ntmps84
    go_wp2_with fail
    refine HW.out.mono ?_
    rintro e w1 ⟨rfl, hw⟩
    have hw1 := hw.symm
    subst hw1
    clear hw
    go_wp2_with fail
    go_ret
    exact ⟨rfl, HB0.out⟩

end Go.Proofs.YtpgnabmkfkcogaaGreatDoor
