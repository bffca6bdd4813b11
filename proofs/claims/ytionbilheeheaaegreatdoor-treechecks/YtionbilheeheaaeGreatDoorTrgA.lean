/- Package tree: isSize, isDigest, a group's lacks and parts, newWalk. -/
import Derived.Test.YtionbilheeheaaeGreatDoorTrgM
import Derived.Test.YtionbilheeheaaeGreatDoorRefs
import Derived.Deep.RegionHeld3
namespace Go.Proofs.YtionbilheeheaaeGreatDoor
open Go.RowKit

/-- two cells -/
def duo (a b : Value) : Nat → Value
  | 0 => a
  | _ => b
theorem duo_new (w : World) (t : TypeId) (a b : Value) : (w.alloc (.cells #[a, b] t)).rowIs w.heap.size t 2 (duo a b) :=
  ⟨#[a, b], heap_alloc_new w _, rfl, fun i hi => by
    have : i = 0 ∨ i = 1 := by omega
    rcases this with rfl | rfl <;> rfl⟩
theorem duo_arr {W : World} {g : Nat} {t : TypeId} {a b : Value} (h : W.rowIs g t 2 (duo a b)) : W.heap[g]? = some (.cells #[a, b] t (0, 0)) := by
  obtain ⟨cs, h1, h2, h4⟩ := h
  rw [h1]
  have e : cs = #[a, b] := by
    apply Array.ext
    · simpa using h2
    · intro i hi hi2
      have h0 : i = 0 ∨ i = 1 := by simp at hi2; omega
      have h5 := h4 i (by omega)
      rw [Array.getElem?_eq_getElem hi] at h5
      have h6 := Option.some.inj h5
      rw [h6]
      rcases h0 with rfl | rfl <;> rfl
  rw [e]
theorem duo_set0 {W : World} {g : Nat} {t : TypeId} {a b : Value} (h : W.rowIs g t 2 (duo a b)) (a' : Value) : (W.setCell ⟨g, 0, none⟩ a').rowIs g t 2 (duo a' b) :=
  World.rowIs.congr (World.rowIs.set h 0 a') (fun j hj => by
    have : j = 0 ∨ j = 1 := by omega
    rcases this with rfl | rfl <;> rfl)
theorem duo_set1 {W : World} {g : Nat} {t : TypeId} {a b : Value} (h : W.rowIs g t 2 (duo a b)) (b' : Value) : (W.setCell ⟨g, 1, none⟩ b').rowIs g t 2 (duo a b') :=
  World.rowIs.congr (World.rowIs.set h 1 b') (fun j hj => by
    have : j = 0 ∨ j = 1 := by omega
    rcases this with rfl | rfl <;> rfl)
theorem results_cc {P : Program} {fn : Func} {p r : Tmp} {ty : TypeId} (h : fn.results = #[.cell p ty, .cell r ty]) (tmps : Array Value) (w : World) (g g2 : Nat) (tt : TypeId) (cs cs2 : Array Value) (fr : Nat × Nat) (d : TypeDesc)
    (hp : tmps.getD p undef = .pointer (some ⟨g, 0, none⟩)) (hr : tmps.getD r undef = .pointer (some ⟨g2, 0, none⟩)) (hg : w.heap[g]? = some (.cells cs tt fr)) (hg2 : w.heap[g2]? = some (.cells cs2 tt fr))
    (hu : P.underlying ty = some d) (hd : (match d with | .struct _ | .array _ _ => true | _ => false) = true) (hi : (P.info? ty).map (·.size) = some cs.size) (hi2 : (P.info? ty).map (·.size) = some cs2.size) :
    (results fn tmps).run P w = .ok (.tuple #[.agg cs, .agg cs2]) w := by
  have hp' : tmps[p]?.getD undef = .pointer (some ⟨g, 0, none⟩) := by simpa using hp
  have hr' : tmps[r]?.getD undef = .pointer (some ⟨g2, 0, none⟩) := by simpa using hr
  simp [results, h, hp', hr', asAddr, run_loadVar_row w g tt ty cs fr d hg hu hd hi, run_loadVar_row w g2 tt ty cs2 fr d hg2 hu hd hi2]

theorem issize_any (x : Int) (w : World) : Calls Tryz.prog 20 #[.int .i64 x] w fun e w' => e = .returned (.bool (decide (1 ≤ x) && decide (x ≤ 65536))) ∧ w' = w := by
  by_cases h1 : 1 ≤ x
  · go_enter Tryz.func20, Tryz.ntmps20
    go_wp2
    go_ret
    exact ⟨by simp [h1], rfl⟩
  · go_enter Tryz.func20, Tryz.ntmps20
    go_wp2
    go_ret
    refine ⟨?_, rfl⟩
    rw [decide_eq_false (by omega : ¬ 1 ≤ x)]
    rfl

theorem isdigest_any (a : Option Addr) (len cap : Nat) (w : World) : Calls Tryz.prog 62 #[.slice a len cap] w fun e w' => e = .returned (.bool (decide (len = 4))) ∧ w' = w := by
  go_enter Tryz.func62, Tryz.ntmps62
  go_wp2
  go_ret
  refine ⟨?_, rfl⟩
  show Ending.returned (.bool ((len : Int) == 4)) = _
  rw [show ((len : Int) == 4) = decide (len = 4) by rw [Bool.eq_iff_iff]; simp; omega]

theorem lacks_any (a b : Nat) (x : Int) (w : World) : Calls Tryz.prog 22 #[gk a b, .int .i64 x] w fun e w' => e = .returned (.bool (decide (x < a) || decide ((b : Int) ≤ x))) ∧ Below w.heap.size w w' := by
  unfold gk
  by_cases h : x < (a : Int)
  · go_enter Tryz.func22, Tryz.ntmps22
    go_wp2
    go_ret
    exact ⟨by rw [decide_eq_true h]; rfl, (Below.refl _ _).alloc (Nat.le_refl _) _⟩
  · go_enter Tryz.func22, Tryz.ntmps22
    go_wp2
    go_ret
    exact ⟨by rw [decide_eq_false (by omega : ¬ x < (a : Int))]; rfl, (Below.refl _ _).alloc (Nat.le_refl _) _⟩

set_option maxRecDepth 100000 in
set_option maxHeartbeats 4000000 in
theorem parts_any (a b c : Nat) (hab : b = a + c) (hb : b ≤ 1000000) (w : World) : Calls Tryz.prog 55 #[gk a b] w fun e w' => e = .returned (.tuple #[gk a (a + lft c), gk (a + lft c) b]) ∧ Below w.heap.size w w' := by
  unfold gk
  have hsub : (b : Int) - (a : Int) = (c : Int) := by omega
  have hcb : c ≤ 1000000 := by omega
  have hlc : lft c ≤ 1000000 := by have := (lft_spec c).2; unfold lft at *; have := lftA_spec c 1 c (Nat.le_refl _) (by omega); omega
  have hal : a ≤ 1000000 := by omega
  clear hab
  go_enter Tryz.func55, Tryz.ntmps55
  go_wp2_with fail
  go_loop [4] (fun mv => ∃ (k m : Nat), mv = .int .i64 m ∧ 1 ≤ m ∧ m ≤ c + 1 ∧ c ≤ m + k ∧ Hid (lftA k m c = lft c)) (fun mv => c + 1 - (intOf mv).toNat)
  case atStart => exact ⟨c, 1, rfl, Nat.le_refl _, by omega, by omega, rfl⟩
  case round =>
    obtain ⟨k, m, rfl, h1, h2, h6, HI⟩ := hrel
    by_cases h : m * 2 < c
    · have e1 : 2 * (m : Int) < (c : Int) := by omega
      have hk : 0 < k := by omega
      obtain ⟨k', rfl⟩ : ∃ k', k = k' + 1 := ⟨k - 1, by omega⟩
      have HI2 : Hid (lftA k' (m * 2) c = lft c) := by
        have := HI.out
        rw [lftA, if_pos h] at this
        exact this
      go_wp2_with fail
      go_round
      case rel => exact ⟨k', m * 2, by go_num, by omega, by omega, by omega, HI2⟩
      case measure => simp [intOf]; omega
    · have e1 : ¬ 2 * (m : Int) < (c : Int) := by omega
      have HE : Hid (lft c = m) := by
        unfold Hid
        rw [← HI.out]
        cases k with
        | zero => rfl
        | succ k => rw [lftA, if_neg h]
      rw [HE.out] at hlc
      have hwr : IntKind.i64.wrap ((a : Int) + (m : Int)) = (a : Int) + (m : Int) := by rw [IntKind.wrap_i64]; omega
      go_wp2_with fail
      go_region_held3 (fun w' => w'.cell? ⟨w.heap.size, 0, none⟩ = some (.int .i64 (a : Int)) ∧ w'.cell? ⟨w.heap.size, 1, none⟩ = some (.int .i64 (b : Int))) (go_keep) (fail)
      have HG1 : Hid (∀ o1 o3 : Obj, (((w.alloc o1).alloc (.cells #[.int .i64 (a : Int), .int .i64 ((a : Int) + (m : Int))] 55)).alloc o3).drew.heap[w.heap.size + 1]? = some (.cells #[.int .i64 (a : Int), .int .i64 ((a : Int) + (m : Int))] 55 (0, 0))) := fun o1 o3 => by
        have := duo_arr ((duo_new (w.alloc o1) 55 (.int .i64 (a : Int)) (.int .i64 ((a : Int) + (m : Int)))).alloc o3)
        rwa [show (w.alloc o1).heap.size = w.heap.size + 1 from by simp] at this
      have HG2 : Hid (∀ o1 o2 : Obj, (((w.alloc o1).alloc o2).alloc (.cells #[.int .i64 ((a : Int) + (m : Int)), .int .i64 (b : Int)] 55)).drew.heap[w.heap.size + 1 + 1]? = some (.cells #[.int .i64 ((a : Int) + (m : Int)), .int .i64 (b : Int)] 55 (0, 0))) := fun o1 o2 => by
        have := duo_arr (duo_new ((w.alloc o1).alloc o2) 55 (.int .i64 ((a : Int) + (m : Int))) (.int .i64 (b : Int)))
        rwa [show ((w.alloc o1).alloc o2).heap.size = w.heap.size + 1 + 1 from by simp] at this
      have HB : Hid (∀ o1 o2 o3 : Obj, Below w.heap.size w (((w.alloc o1).alloc o2).alloc o3).drew) := fun o1 o2 o3 => ((((Below.refl _ _).alloc (Nat.le_refl _) _).alloc (by simp) _).alloc (by simp; omega) _).drew
      have HM : Hid (((a + lft c : Nat) : Int) = (a : Int) + (m : Int)) := by unfold Hid; rw [HE.out]; omega
      go_wp2_with fail
      refine bodyPost_ret (results_cc rfl _ _ (w.heap.size + 1) (w.heap.size + 1 + 1) 55 _ _ (0, 0) _ rfl rfl (HG1.out _ _) (HG2.out _ _) Tryz.underlying55 rfl (by kernel_rfl) (by kernel_rfl)) rfl ?_
      rw [HM.out]
      exact ⟨rfl, HB.out _ _ _⟩

/-- a walk, in memory -/
def WlkAt (w : World) (g B s : Nat) : Prop := w.heap[g]? = some (.cells #[.pointer (some ⟨s, 0, none⟩), .map (some B)] 99 (0, 0))
theorem WlkAt.block {w w' : World} {g B s : Nat} (h : WlkAt w g B s) (e : w'.heap[g]? = w.heap[g]?) : WlkAt w' g B s := e.trans h
theorem WlkAt.lt {w : World} {g B s : Nat} (h : WlkAt w g B s) : g < w.heap.size := (Array.getElem?_eq_some_iff.1 h).1
theorem WlkAt.c0 {w : World} {g B s : Nat} (h : WlkAt w g B s) : w.cell? ⟨g, 0, none⟩ = some (.pointer (some ⟨s, 0, none⟩)) := by
  unfold WlkAt at h
  simp [World.cell?, h]
theorem WlkAt.c1 {w : World} {g B s : Nat} (h : WlkAt w g B s) : w.cell? ⟨g, 1, none⟩ = some (.map (some B)) := by
  unfold WlkAt at h
  simp [World.cell?, h]

theorem newwalk_any (s : Nat) (w : World) : Calls Tryz.prog 28 #[.pointer (some ⟨s, 0, none⟩)] w fun e w' => e = .returned (.pointer (some ⟨w.heap.size + 1, 0, none⟩)) ∧ WlkAt w' (w.heap.size + 1) w.heap.size s ∧ MapIs w' w.heap.size (fun _ _ => none) ∧ w'.heap.size = w.heap.size + 2 ∧ Below w.heap.size w w' := by
  have hmm := @run_makeMap Tryz.prog
  go_enter Tryz.func28, Tryz.ntmps28
  go_wp2
  go_ret
  refine ⟨rfl, ?_, ?_, by simp, ((Below.refl _ _).alloc (Nat.le_refl _) _).alloc (by simp) _⟩
  · have := heap_alloc_new (w.alloc (.map #[] 0)) (.cells #[.pointer (some ⟨s, 0, none⟩), .map (some w.heap.size)] 99)
    rwa [show (w.alloc (.map #[] 0)).heap.size = w.heap.size + 1 from by simp] at this
  · refine (MapIs.new w).block ?_
    exact (MapKept.heap_alloc _ _).2 _ (by simp)

end Go.Proofs.YtionbilheeheaaeGreatDoor
