/- Package source: the value of a name that is given one. Package source: values, of all parts. Package source: what main defers. Programs as text, plainly: another fuel. -/
import Derived.Test.YthemehdcakimgaiGreatDoorBgAV
namespace Go.Proofs.YthemehdcakimgaiGreatDoor
open Go.RowKit

end Go.Proofs.YthemehdcakimgaiGreatDoor

namespace Go.Proofs.YthemehdcakimgaiGreatDoor
open Go.RowKit

end Go.Proofs.YthemehdcakimgaiGreatDoor

namespace Go.Proofs.YthemehdcakimgaiGreatDoor
open Go.RowKit

theorem fr15 (a b v : Value) : (#[a, b] ++ (Array.replicate 13 undef).setIfInBounds 3 v : Array Value) = #[a, b, undef, undef, undef, v, undef, undef, undef, undef, undef, undef, undef, undef, undef] := by kernel_rfl

end Go.Proofs.YthemehdcakimgaiGreatDoor

namespace Go.Proofs.YthemehdcakimgaiGreatDoor

/-- with another fuel: the same, where it is enough, and too long, where it isn't -/
def FuR {α : Type} (f2 : Nat) (r1 r2 : ER α) : Prop := ∀ x k, r1 = .val x k → (k ≤ f2 → r2 = .val x k) ∧ (f2 < k → r2 = .stop 8)
theorem FuR.bind {α β : Type} {f2 : Nat} {r1 r2 : ER α} {g1 g2 : α → Nat → ER β} (h : FuR f2 r1 r2) (hm : ∀ x k y j, r1 = .val x k → g1 x k = .val y j → k ≤ j) (hg : ∀ x k, r1 = .val x k → k ≤ f2 → FuR f2 (g1 x k) (g2 x k)) : FuR f2 (r1.bind g1) (r2.bind g2) := by
  intro y j hv
  obtain ⟨x, k, e1, e2⟩ := ER.bind_val hv
  obtain ⟨h1, h2⟩ := h x k e1
  have hkj := hm x k y j e1 e2
  by_cases hk : k ≤ f2
  · rw [h1 hk]
    exact hg x k e1 hk y j e2
  · rw [h2 (by omega)]
    exact ⟨fun h => by omega, fun _ => rfl⟩
theorem FuR.val {α : Type} {f2 : Nat} (x : α) {k : Nat} (hk : k ≤ f2) : FuR f2 (.val x k) (.val x k) := by
  intro y j h
  injection h with h1 h2
  subst h1 h2
  exact ⟨fun _ => rfl, fun h => by omega⟩
theorem FuR.of_stop {α : Type} {f2 er : Nat} {r2 : ER α} : FuR f2 (.stop er) r2 := fun _ _ h => (nomatch h)
theorem FuR.of_out {α : Type} {f2 : Nat} {r2 : ER α} : FuR f2 .out r2 := fun _ _ h => (nomatch h)
theorem evA_fuel (p : Nat) (fs : List FnT) (f1 f2 : Nat) (h3 : 3 ≤ p) (R : Nat) (sc : List (List UInt8 × Int)) (hs : ScB p sc) (ih : ∀ (t : Tr) (k : Nat), k ≤ f1 → k ≤ f2 → FuR f2 (evl p fs f1 R t sc k) (evl p fs f2 R t sc k)) : ∀ (more : List (List UInt8 × Nat)) (ts : List Tr) (own : List (List UInt8 × Int)) (k : Nat), ScB p own → k ≤ f1 → k ≤ f2 → FuR f2 (evA (fun t k => evl p fs f1 R t sc k) more ts own k) (evA (fun t k => evl p fs f2 R t sc k) more ts own k)
  | [], ts, own, k, _, _, hk2 => by rw [evA, evA]; exact FuR.val _ hk2
  | m :: r, [], own, k, _, _, _ => by rw [evA]; exact FuR.of_out
  | m :: r, t :: ts, own, k, ho, hk1, hk2 => by
    rw [evA, evA]
    have hcons : ∀ v k2, evl p fs f1 R t sc k = .val v k2 → ScB p ((m.1, v) :: own) ∧ k2 ≤ f1 := fun v k2 h => by
      have hb := evl_bd p fs f1 h3 R t sc k v k2 hs hk1 h
      refine ⟨fun y hy => ?_, hb.2.2⟩
      rcases List.mem_cons.1 hy with rfl | hy
      · exact hb.1
      · exact ho y hy
    refine (ih t k hk1 hk2).bind (fun v k2 ys j e1 e2 => ?_) (fun v k2 e1 hk => ?_)
    · have hc := hcons v k2 e1
      exact (evA_bd p fs f1 h3 R sc hs r ts _ k2 ys j hc.1 hc.2 e2).2.1
    · have hc := hcons v k2 e1
      exact evA_fuel p fs f1 f2 h3 R sc hs ih r ts _ k2 hc.1 hc.2 hk
theorem evl_fuel (p : Nat) (fs : List FnT) (f1 f2 : Nat) (h3 : 3 ≤ p) : ∀ (R : Nat) (t : Tr) (sc : List (List UInt8 × Int)) (k : Nat), ScB p sc → k ≤ f1 → k ≤ f2 → FuR f2 (evl p fs f1 R t sc k) (evl p fs f2 R t sc k)
  | 0, t, sc, k, _, _, _ => by rw [evl]; exact FuR.of_out
  | R + 1, .node kd nm at' n kids, sc, k, hs, hk1, hk2 => by
    have ih := evl_fuel p fs f1 f2 h3 R
    have hbd : ∀ (t : Tr) (sc : List (List UInt8 × Int)) (k : Nat) (x : Int) (j : Nat), ScB p sc → k ≤ f1 → evl p fs f1 R t sc k = .val x j → (0 ≤ x ∧ x < (p : Int)) ∧ k < j ∧ j ≤ f1 := fun t sc k x j h h' h'' => evl_bd p fs f1 h3 R t sc k x j h h' h''
    by_cases e2 : k = f2
    · intro x j h
      have hb := evl_bd p fs f1 h3 (R + 1) _ sc k x j hs hk1 h
      refine ⟨fun h => by omega, fun _ => ?_⟩
      unfold evl
      rw [if_pos e2]
    · by_cases e1 : k = f1
      · unfold evl
        rw [if_pos e1]
        exact FuR.of_stop
      · have l1 : k + 1 ≤ f1 := by omega
        have l2 : k + 1 ≤ f2 := by omega
        unfold evl
        rw [if_neg e1, if_neg e2]
        split
        · exact FuR.val _ l2
        · split
          · split
            · exact FuR.val _ l2
            · exact FuR.of_out
          · split
            · split
              · rename_i g _
                refine (evA_fuel p fs f1 f2 h3 R sc hs (fun t k h h' => ih t sc k hs h h') g.more kids [] (k + 1) (by intro y hy; cases hy) l1 l2).bind (fun own k2 y j e3 e4 => ?_) (fun own k2 e3 hk => ?_)
                · have hb := evA_bd p fs f1 h3 R sc hs g.more kids [] (k + 1) own k2 (by intro y hy; cases hy) l1 e3
                  exact Nat.le_of_lt (hbd _ own k2 y j hb.1 hb.2.2 e4).2.1
                · have hb := evA_bd p fs f1 h3 R sc hs g.more kids [] (k + 1) own k2 (by intro y hy; cases hy) l1 e3
                  exact ih _ own k2 hb.1 hb.2.2 hk
              · exact FuR.of_out
            · split
              · split
                · refine (ih _ sc _ hs l1 l2).bind (fun x k2 y j _ e4 => ?_) (fun x k2 _ hk => FuR.val _ hk)
                  injection e4 with _ e4
                  exact Nat.le_of_eq e4
                · exact FuR.of_out
              · split
                · refine (ih _ sc _ hs l1 l2).bind (fun x k2 y j e3 e4 => ?_) (fun x k2 e3 hk => ?_)
                  · have hb := hbd _ sc _ x k2 hs l1 e3
                    exact Nat.le_of_lt (hbd _ ((nm, x) :: sc) k2 y j (fun z hz => by
                      rcases List.mem_cons.1 hz with rfl | hz
                      · exact hb.1
                      · exact hs z hz) hb.2.2 e4).2.1
                  · have hb := hbd _ sc _ x k2 hs l1 e3
                    exact ih _ ((nm, x) :: sc) k2 (fun z hz => by
                      rcases List.mem_cons.1 hz with rfl | hz
                      · exact hb.1
                      · exact hs z hz) hb.2.2 hk
                · refine (ih _ sc _ hs l1 l2).bind (fun x k2 y j e3 e4 => ?_) (fun x k2 e3 hk => ?_)
                  · have hb := hbd _ sc _ x k2 hs l1 e3
                    obtain ⟨v, k3, e5, e6⟩ := ER.bind_val e4
                    have hb2 := hbd _ sc _ v k3 hs hb.2.2 e5
                    have := (rknS_bd h3 e6).2
                    omega
                  · have hb := hbd _ sc _ x k2 hs l1 e3
                    refine (ih _ sc _ hs hb.2.2 hk).bind (fun v k3 y j _ e6 => Nat.le_of_eq (rknS_bd h3 e6).2.symm) (fun v k3 _ hk3 => ?_)
                    intro y j h
                    have hj := (rknS_bd h3 h).2
                    exact ⟨fun _ => h, fun h' => by omega⟩
              · split
                · refine (ih _ sc _ hs l1 l2).bind (fun x k2 y j e3 e4 => ?_) (fun x k2 e3 hk => ?_)
                  · have hb := hbd _ sc _ x k2 hs l1 e3
                    obtain ⟨v, k3, e5, e6⟩ := ER.bind_val e4
                    have hb2 := hbd _ sc _ v k3 hs hb.2.2 e5
                    split at e6
                    · have := (hbd _ sc _ y j hs hb2.2.2 e6).2.1
                      omega
                    · cases e6
                  · have hb := hbd _ sc _ x k2 hs l1 e3
                    refine (ih _ sc _ hs hb.2.2 hk).bind (fun v k3 y j e5 e6 => ?_) (fun v k3 e5 hk3 => ?_)
                    · have hb2 := hbd _ sc _ v k3 hs hb.2.2 e5
                      split at e6
                      · exact Nat.le_of_lt (hbd _ sc _ y j hs hb2.2.2 e6).2.1
                      · cases e6
                    · have hb2 := hbd _ sc _ v k3 hs hb.2.2 e5
                      split
                      · exact ih _ sc _ hs hb2.2.2 hk3
                      · exact FuR.of_stop
                · split
                  · refine (ih _ sc _ hs l1 l2).bind (fun x k2 y j e3 e4 => ?_) (fun x k2 e3 hk => ?_)
                    · have hb := hbd _ sc _ x k2 hs l1 e3
                      split at e4
                      · exact Nat.le_of_lt (hbd _ sc _ y j hs hb.2.2 e4).2.1
                      · exact Nat.le_of_lt (hbd _ sc _ y j hs hb.2.2 e4).2.1
                    · have hb := hbd _ sc _ x k2 hs l1 e3
                      split
                      · exact ih _ sc _ hs hb.2.2 hk
                      · exact ih _ sc _ hs hb.2.2 hk
                  · exact FuR.of_out
              · exact FuR.of_out

end Go.Proofs.YthemehdcakimgaiGreatDoor
