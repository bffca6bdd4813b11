/- Package source: what a program comes to, plainly; a part that is looked at. Package source: values, two after one another. Package source: signs between two parts. Programs as text, plainly: what is read and whose names stand has a value, or an end. -/
import Derived.Test.YthemehdcakimgaiGreatDoorBgAS
import Derived.Test.YthemehdcakimgaiGreatDoorSpgs
namespace Go.Proofs.YthemehdcakimgaiGreatDoor
open Go.RowKit

/-- a value and how many parts were looked at; or an end -/
inductive ER (α : Type) where
  | val (x : α) (k : Nat)
  | stop (er : Nat)
  | out
def ER.bind {α β : Type} (r : ER α) (f : α → Nat → ER β) : ER β := match r with
  | .val x k => f x k
  | .stop er => .stop er
  | .out => .out
/-- the function of a name -/
def fnOf (fs : List FnT) (nm : List UInt8) : Option FnT := match nmM fs fs.length nm with
  | some i => fs[i.toNat]?
  | none => none
/-- what parts come to, one after another, under names -/
def evA (f : Tr → Nat → ER Int) : List (List UInt8 × Nat) → List Tr → List (List UInt8 × Int) → Nat → ER (List (List UInt8 × Int))
  | [], _, own, k => .val own k
  | x :: r, t :: ts, own, k => (f t k).bind fun v k2 => evA f r ts ((x.1, v) :: own) k2
  | _ :: _, [], _, _ => .out
/-- what a sign makes of two numbers; 0: it is stuck -/
def rknS (p : Nat) (kd : Nat) (a b : Int) (k : Nat) : ER Int :=
  if kd = 4 then .val ((a + b) % (p : Int)) k else if kd = 5 then .val ((a - b) % (p : Int)) k else if kd = 6 then .val (a * b % (p : Int)) k
  else if kd = 7 then (if b = 0 then .stop 7 else .val (a * (invn p b : Int) % (p : Int)) k) else .val (if a = b then 1 else 0) k
/-- what an expression comes to -/
def evl (p : Nat) (fs : List FnT) (fuel : Nat) : Nat → Tr → List (List UInt8 × Int) → Nat → ER Int
  | 0, _, _, _ => .out
  | R + 1, .node kd nm _ n kids, sc, k =>
    if k = fuel then .stop 8 else
    if kd = 0 then .val ((n : Int) % (p : Int)) (k + 1)
    else if kd = 1 then (match sc.find? (fun x => x.1 == nm) with | some x => .val x.2 (k + 1) | none => .out)
    else if kd = 2 then (match fnOf fs nm with
      | some g => (evA (fun t k => evl p fs fuel R t sc k) g.more kids [] (k + 1)).bind fun own k2 => evl p fs fuel R g.body own k2
      | none => .out)
    else match kids with
      | [a] => if kd = 3 then (evl p fs fuel R a sc (k + 1)).bind fun x k2 => .val ((0 - x) % (p : Int)) k2 else .out
      | [a, b] => if kd = 9 then (evl p fs fuel R a sc (k + 1)).bind fun x k2 => evl p fs fuel R b ((nm, x) :: sc) k2
        else (evl p fs fuel R a sc (k + 1)).bind fun x k2 => (evl p fs fuel R b sc k2).bind fun y k3 => rknS p kd x y k3
      | [a, b, c] => if kd = 10 then (evl p fs fuel R a sc (k + 1)).bind fun x k2 => (evl p fs fuel R b sc k2).bind fun y k3 => if x = y then evl p fs fuel R c sc k3 else .stop 7
        else if kd = 11 then (evl p fs fuel R a sc (k + 1)).bind fun x k2 => if x = 0 then evl p fs fuel R c sc k2 else evl p fs fuel R b sc k2 else .out
      | _ => .out

theorem frN (V n : Nat) (w : World) : Fr V w (w.drewN n) := ⟨⟨rfl, rfl, rfl, Nat.le_refl _, fun _ _ => rfl⟩, fun _ _ _ => rfl⟩

end Go.Proofs.YthemehdcakimgaiGreatDoor

namespace Go.Proofs.YthemehdcakimgaiGreatDoor
open Go.RowKit

/-- names that stand for elements -/
def ScB (p : Nat) (sc : List (List UInt8 × Int)) : Prop := ∀ y, y ∈ sc → 0 ≤ y.2 ∧ y.2 < (p : Int)
theorem ER.bind_ne {α β : Type} {r : ER α} {f : α → Nat → ER β} (h : r.bind f ≠ .out) : r ≠ .out := fun e => h (by rw [e]; rfl)
theorem ER.bind_val {α β : Type} {r : ER α} {f : α → Nat → ER β} {y : β} {j : Nat} (h : r.bind f = .val y j) : ∃ x k, r = .val x k ∧ f x k = .val y j := by
  cases r with
  | val x k => exact ⟨x, k, rfl, h⟩
  | stop e => cases h
  | out => cases h
theorem rknS_bd {p kd k j : Nat} {a b x : Int} (h3 : 3 ≤ p) (h : rknS p kd a b k = .val x j) : (0 ≤ x ∧ x < (p : Int)) ∧ j = k := by
  have hm : ∀ z : Int, 0 ≤ z % (p : Int) ∧ z % (p : Int) < (p : Int) := fun z => ⟨Int.emod_nonneg _ (by omega), Int.emod_lt_of_pos _ (by omega)⟩
  unfold rknS at h
  repeat' split at h
  all_goals (first | (cases h; done) | (injection h with h1 h2; subst h1 h2; first | exact ⟨hm _, rfl⟩ | exact ⟨by omega, rfl⟩))
/-- what an expression comes to is an element, and more parts were looked at -/
theorem evl_bd (p : Nat) (fs : List FnT) (fuel : Nat) (h3 : 3 ≤ p) : ∀ (R : Nat) (t : Tr) (sc : List (List UInt8 × Int)) (k : Nat) (x : Int) (j : Nat), ScB p sc → k ≤ fuel → evl p fs fuel R t sc k = .val x j → (0 ≤ x ∧ x < (p : Int)) ∧ k < j ∧ j ≤ fuel
  | 0, _, _, _, _, _, _, _, h => by rw [evl] at h; cases h
  | R + 1, .node kd nm at' n kids, sc, k, x, j, hs, hk, h => by
    have ih := evl_bd p fs fuel h3 R
    have hm : ∀ z : Int, 0 ≤ z % (p : Int) ∧ z % (p : Int) < (p : Int) := fun z => ⟨Int.emod_nonneg _ (by omega), Int.emod_lt_of_pos _ (by omega)⟩
    have hA : ∀ (more : List (List UInt8 × Nat)) (ts : List Tr) (own : List (List UInt8 × Int)) (k : Nat) (ys : List (List UInt8 × Int)) (j : Nat), ScB p own → k ≤ fuel → evA (fun t k => evl p fs fuel R t sc k) more ts own k = .val ys j → ScB p ys ∧ k ≤ j ∧ j ≤ fuel := by
      intro more
      induction more with
      | nil => intro ts own k ys j ho hk h; rw [evA] at h; injection h with h1 h2; subst h1 h2; exact ⟨ho, Nat.le_refl _, hk⟩
      | cons m r ihm =>
        intro ts own k ys j ho hk h
        cases ts with
        | nil => rw [evA] at h; cases h
        | cons t ts =>
          rw [evA] at h
          obtain ⟨v, k2, e1, e2⟩ := ER.bind_val h
          obtain ⟨b1, b2, b3⟩ := ih t sc k v k2 hs hk e1
          obtain ⟨c1, c2, c3⟩ := ihm ts _ k2 ys j (fun y hy => by
            rcases List.mem_cons.1 hy with rfl | hy
            · exact b1
            · exact ho y hy) b3 e2
          exact ⟨c1, by omega, c3⟩
    unfold evl at h
    split at h
    · cases h
    · rename_i hkf
      have hk1 : k + 1 ≤ fuel := by omega
      split at h
      · injection h with h1 h2; subst h1 h2; exact ⟨hm _, by omega, hk1⟩
      · split at h
        · split at h
          · rename_i y hy
            injection h with h1 h2; subst h1 h2
            exact ⟨hs y (List.mem_of_find?_eq_some hy), by omega, hk1⟩
          · cases h
        · split at h
          · split at h
            · rename_i g _
              obtain ⟨own, k2, e1, e2⟩ := ER.bind_val h
              obtain ⟨a1, a2, a3⟩ := hA _ _ _ _ _ _ (by intro y hy; cases hy) hk1 e1
              obtain ⟨b1, b2, b3⟩ := ih _ own k2 x j a1 a3 e2
              exact ⟨b1, by omega, b3⟩
            · cases h
          · split at h
            · split at h
              · obtain ⟨y, k2, e1, e2⟩ := ER.bind_val h
                obtain ⟨b1, b2, b3⟩ := ih _ sc _ y k2 hs hk1 e1
                injection e2 with h1 h2; subst h1 h2
                exact ⟨hm _, by omega, b3⟩
              · cases h
            · split at h
              · obtain ⟨y, k2, e1, e2⟩ := ER.bind_val h
                obtain ⟨b1, b2, b3⟩ := ih _ sc _ y k2 hs hk1 e1
                obtain ⟨c1, c2, c3⟩ := ih _ _ k2 x j (fun z hz => by
                  rcases List.mem_cons.1 hz with rfl | hz
                  · exact b1
                  · exact hs z hz) b3 e2
                exact ⟨c1, by omega, c3⟩
              · obtain ⟨y, k2, e1, e2⟩ := ER.bind_val h
                obtain ⟨b1, b2, b3⟩ := ih _ sc _ y k2 hs hk1 e1
                obtain ⟨z, k3, e3, e4⟩ := ER.bind_val e2
                obtain ⟨c1, c2, c3⟩ := ih _ sc _ z k3 hs b3 e3
                obtain ⟨d1, d2⟩ := rknS_bd h3 e4
                exact ⟨d1, by omega, by omega⟩
            · split at h
              · obtain ⟨y, k2, e1, e2⟩ := ER.bind_val h
                obtain ⟨b1, b2, b3⟩ := ih _ sc _ y k2 hs hk1 e1
                obtain ⟨z, k3, e3, e4⟩ := ER.bind_val e2
                obtain ⟨c1, c2, c3⟩ := ih _ sc _ z k3 hs b3 e3
                split at e4
                · obtain ⟨d1, d2, d3⟩ := ih _ sc _ x j hs c3 e4
                  exact ⟨d1, by omega, d3⟩
                · cases e4
              · split at h
                · obtain ⟨y, k2, e1, e2⟩ := ER.bind_val h
                  obtain ⟨b1, b2, b3⟩ := ih _ sc _ y k2 hs hk1 e1
                  split at e2
                  · obtain ⟨d1, d2, d3⟩ := ih _ sc _ x j hs b3 e2
                    exact ⟨d1, by omega, d3⟩
                  · obtain ⟨d1, d2, d3⟩ := ih _ sc _ x j hs b3 e2
                    exact ⟨d1, by omega, d3⟩
                · cases h
            · cases h
end Go.Proofs.YthemehdcakimgaiGreatDoor

namespace Go.Proofs.YthemehdcakimgaiGreatDoor
open Go.RowKit

theorem bind_pair {α : Type} (r : ER Int) (g : Nat → ER Int) (F : Int → Int → Nat → ER α) : (r.bind fun u k2 => (g k2).bind fun v k3 => F u v k3) = (r.bind fun u k2 => (g k2).bind fun v k3 => .val (u, v) k3).bind (fun z k => F z.1 z.2 k) := by
  cases r with
  | val u k =>
    show (g k).bind _ = ((g k).bind _).bind _
    cases g k <;> rfl
  | stop e => rfl
  | out => rfl

end Go.Proofs.YthemehdcakimgaiGreatDoor

namespace Go.Proofs.YthemehdcakimgaiGreatDoor

theorem nmM_some (fs : List FnT) : ∀ (k : Nat) (nm : List UInt8) (z : Int), nmM fs k nm = some z → ∃ j g, z = (j : Nat) ∧ j < k ∧ fs[j]? = some g ∧ g.name = nm
  | 0, nm, z, h => by rw [nmM] at h; cases h
  | k + 1, nm, z, h => by
    rw [nmM] at h
    cases hg : fs[k]? with
    | some g =>
      rw [hg] at h
      dsimp only at h
      unfold updI at h
      by_cases e : nm = g.name
      · rw [if_pos e] at h
        injection h with h
        exact ⟨k, g, h.symm, by omega, hg, e.symm⟩
      · rw [if_neg e] at h
        obtain ⟨j, g', h1, h2, h3⟩ := nmM_some fs k nm z h
        exact ⟨j, g', h1, by omega, h3⟩
    | none =>
      rw [hg] at h
      obtain ⟨j, g', h1, h2, h3⟩ := nmM_some fs k nm z h
      exact ⟨j, g', h1, by omega, h3⟩
theorem nmM_has (fs : List FnT) : ∀ (k j : Nat) (g : FnT), j < k → fs[j]? = some g → (nmM fs k g.name).isSome = true
  | 0, j, g, h, _ => by omega
  | k + 1, j, g, h, hg => by
    rw [nmM]
    cases hg' : fs[k]? with
    | some g' =>
      dsimp only
      unfold updI
      by_cases e : g.name = g'.name
      · rw [if_pos e]; rfl
      · rw [if_neg e]
        refine nmM_has fs k j g ?_ hg
        rcases Nat.lt_or_ge j k with h1 | h1
        · exact h1
        · have : j = k := by omega
          rw [this, hg'] at hg
          injection hg with hg
          exact absurd (by rw [hg]) e
    | none =>
      refine nmM_has fs k j g ?_ hg
      rcases Nat.lt_or_ge j k with h1 | h1
      · exact h1
      · have : j = k := by omega
        rw [this, hg'] at hg
        cases hg
/-- no function's name is another's, and the names within each stand -/
def FsOk (fs : List FnT) : Prop := ∀ i g, fs[i]? = some g → (fs.take i).any (fun h => h.name == g.name) = false ∧ ckw (sgF fs) g = none
theorem ckl_none (fs : List FnT) : ∀ (r : List FnT) (i : Nat), ckl fs r i = none → ∀ j g, r[j]? = some g → (fs.take (i + j)).any (fun h => h.name == g.name) = false ∧ ckw (sgF fs) g = none
  | [], _, _, j, g, hg => by simp at hg
  | x :: r, i, h, j, g, hg => by
    rw [ckl] at h
    split at h
    · cases h
    · rename_i ha
      split at h
      · cases h
      · rename_i hc
        cases j with
        | zero =>
          simp at hg
          subst hg
          exact ⟨by simpa using ha, hc⟩
        | succ j =>
          have := ckl_none fs r (i + 1) h j g (by simpa using hg)
          rwa [show i + 1 + j = i + (j + 1) by omega] at this
theorem ckn_none {fs : List FnT} {len : Nat} (h : ckn fs len = none) : FsOk fs ∧ fs.any (fun h => h.name == mainW) = true := by
  unfold ckn at h
  split at h
  · cases h
  · rename_i hc
    split at h
    · rename_i hm
      exact ⟨fun i g hg => by have := ckl_none fs fs 0 hc i g hg; rwa [Nat.zero_add] at this, hm⟩
    · cases h
theorem FsOk.one {fs : List FnT} (h : FsOk fs) {i j : Nat} {g g' : FnT} (hi : fs[i]? = some g) (hj : fs[j]? = some g') (e : g.name = g'.name) : i = j := by
  have key : ∀ (i j : Nat) (g g' : FnT), fs[i]? = some g → fs[j]? = some g' → g.name = g'.name → ¬ i < j := by
    intro i j g g' hi hj e hlt
    have h1 := (h j g' hj).1
    rw [List.any_eq_false] at h1
    exact h1 g (List.mem_of_getElem? (i := i) (by rw [List.getElem?_take_of_lt hlt]; exact hi)) (by simp [e])
  have h1 := key i j g g' hi hj e
  have h2 := key j i g' g hj hi e.symm
  omega
theorem FsOk.num {fs : List FnT} (h : FsOk fs) {i : Nat} {g : FnT} (hi : fs[i]? = some g) : nmM fs fs.length g.name = some (i : Int) := by
  have h1 := nmM_has fs fs.length i g (List.getElem?_eq_some_iff.1 hi).1 hi
  cases hz : nmM fs fs.length g.name with
  | none => rw [hz] at h1; cases h1
  | some z =>
    obtain ⟨j, g', e1, _, e2, e3⟩ := nmM_some fs _ _ _ hz
    rw [h.one hi e2 e3.symm, e1]
theorem FsOk.fn {fs : List FnT} (h : FsOk fs) {i : Nat} {g : FnT} (hi : fs[i]? = some g) : fnOf fs g.name = some g := by
  unfold fnOf
  rw [h.num hi]
  simpa using hi
theorem ckw_none {sig : List UInt8 → Nat → Bool} {g : FnT} (h : ckw sig g = none) : lk sig g.body (g.more.map (·.1)).reverse = none := by
  unfold ckw at h
  split at h
  · cases h
  · exact h
theorem lks_at {sig : List UInt8 → Nat → Bool} {k : Nat} {nm : List UInt8} {known : List (List UInt8)} : ∀ (ts : List Tr) (i : Nat), lks sig k nm known ts i = none → ∀ j t, ts[j]? = some t → lk sig t (if k = 9 ∧ i + j = 1 then nm :: known else known) = none
  | [], _, _, j, t, ht => by simp at ht
  | x :: r, i, h, j, t, ht => by
    rw [lks] at h
    split at h
    · cases h
    · rename_i hl
      cases j with
      | zero => simp at ht; subst ht; exact hl
      | succ j =>
        have := lks_at r (i + 1) h j t (by simpa using ht)
        rwa [show i + 1 + j = i + (j + 1) by omega] at this
theorem TWs.at : ∀ {ts : List Tr} {j : Nat} {t : Tr}, TWs ts → ts[j]? = some t → TW t
  | [], j, t, _, h => by simp at h
  | x :: r, 0, t, hk, h => by simp at h; subst h; exact hk.1
  | x :: r, j + 1, t, hk, h => TWs.at hk.2 (by simpa using h)
theorem evA_out (f : Tr → Nat → ER Int) (F : Nat) : ∀ (more : List (List UInt8 × Nat)) (ts : List Tr) (own : List (List UInt8 × Int)) (k : Nat), more.length ≤ ts.length → k ≤ F → (∀ (j : Nat) (t : Tr), ts[j]? = some t → ∀ k', k ≤ k' → k' ≤ F → f t k' ≠ .out ∧ ∀ x j, f t k' = .val x j → k' ≤ j ∧ j ≤ F) →
    evA f more ts own k ≠ .out ∧ ∀ ys j, evA f more ts own k = .val ys j → ys.map (·.1) = (more.map (·.1)).reverse ++ own.map (·.1)
  | [], ts, own, k, _, _, _ => by
    rw [evA]
    refine ⟨by simp, fun ys j h => ?_⟩
    injection h with h1 h2
    subst h1 h2
    simp
  | m :: r, [], own, k, hl, _, _ => by simp at hl
  | m :: r, t :: ts, own, k, hl, hkF, hf => by
    rw [evA]
    obtain ⟨h1, h2⟩ := hf 0 t rfl k (Nat.le_refl _) hkF
    cases hv : f t k with
    | out => exact absurd hv h1
    | stop e => exact ⟨fun h => (nomatch h), fun _ _ h => (nomatch h)⟩
    | val v k2 =>
      have hk := h2 v k2 hv
      obtain ⟨g1, g2⟩ := evA_out f F r ts ((m.1, v) :: own) k2 (by simpa using hl) hk.2 (fun j t' ht k' hk' hF' => hf (j + 1) t' (by simpa using ht) k' (by omega) hF')
      refine ⟨g1, fun ys j h => ?_⟩
      rw [g2 ys j h]
      simp
theorem evA_bd (p : Nat) (fs : List FnT) (fuel : Nat) (h3 : 3 ≤ p) (R : Nat) (sc : List (List UInt8 × Int)) (hs : ScB p sc) : ∀ (more : List (List UInt8 × Nat)) (ts : List Tr) (own : List (List UInt8 × Int)) (k : Nat) (ys : List (List UInt8 × Int)) (j : Nat), ScB p own → k ≤ fuel → evA (fun t k => evl p fs fuel R t sc k) more ts own k = .val ys j → ScB p ys ∧ k ≤ j ∧ j ≤ fuel
  | [], ts, own, k, ys, j, ho, hk, h => by rw [evA] at h; injection h with h1 h2; subst h1 h2; exact ⟨ho, Nat.le_refl _, hk⟩
  | m :: r, [], own, k, ys, j, ho, hk, h => by rw [evA] at h; cases h
  | m :: r, t :: ts, own, k, ys, j, ho, hk, h => by
    rw [evA] at h
    obtain ⟨v, k2, e1, e2⟩ := ER.bind_val h
    obtain ⟨b1, b2, b3⟩ := evl_bd p fs fuel h3 R t sc k v k2 hs hk e1
    obtain ⟨c1, c2, c3⟩ := evA_bd p fs fuel h3 R sc hs r ts _ k2 ys j (fun y hy => by
      rcases List.mem_cons.1 hy with rfl | hy
      · exact b1
      · exact ho y hy) b3 e2
    exact ⟨c1, by omega, c3⟩
theorem ER.bind_out {α β : Type} {r : ER α} {f : α → Nat → ER β} (h1 : r ≠ .out) (h2 : ∀ x k, r = .val x k → f x k ≠ .out) : r.bind f ≠ .out := by
  cases r with
  | val x k => exact h2 x k rfl
  | stop e => exact fun h => (nomatch h)
  | out => exact absurd rfl h1
theorem rknS_out (p kd : Nat) (a b : Int) (k : Nat) : rknS p kd a b k ≠ .out := by
  unfold rknS
  repeat' split
  all_goals exact fun h => (nomatch h)
/-- what stands by its names comes to a value or to an end -/
theorem evl_out (p : Nat) (fs : List FnT) (fuel : Nat) (h3 : 3 ≤ p) (hF : FsOk fs) (hW : ∀ g, g ∈ fs → FW g) : ∀ (R : Nat) (t : Tr) (sc : List (List UInt8 × Int)) (k : Nat), TW t → ScB p sc → lk (sgF fs) t (sc.map (·.1)) = none → k ≤ fuel → fuel + 1 ≤ R + k → evl p fs fuel R t sc k ≠ .out
  | 0, t, sc, k, _, _, _, hk, hR => by omega
  | R + 1, .node kd nm at' n kids, sc, k, hT, hS, hl, hk, hR => by
    have ih := evl_out p fs fuel h3 hF hW R
    rw [lk] at hl
    split at hl
    · cases hl
    · rename_i ho
      have ho : onf (sgF fs) kd nm kids.length (sc.map (·.1)) = 0 := by simpa using ho
      have hkid := lks_at kids 0 hl
      obtain ⟨hsh, hks⟩ := hT
      have hbd : ∀ t k' x j, k' ≤ fuel → evl p fs fuel R t sc k' = .val x j → (0 ≤ x ∧ x < (p : Int)) ∧ k' < j ∧ j ≤ fuel := fun t k' x j h h' => evl_bd p fs fuel h3 R t sc k' x j hS h h'
      have hsub : ∀ (j : Nat) (t : Tr), kids[j]? = some t → ¬ (kd = 9 ∧ j = 1) → ∀ k', k + 1 ≤ k' → k' ≤ fuel → evl p fs fuel R t sc k' ≠ .out := fun j t ht hne k' h1 h2 => ih t sc k' (TWs.at hks ht) hS (by have := hkid j t ht; rwa [Nat.zero_add, if_neg hne] at this) h2 (by omega)
      unfold evl
      split
      · exact fun h => (nomatch h)
      · rename_i hkf
        have hk1 : k + 1 ≤ fuel := by omega
        unfold onf at ho
        rcases hsh with ⟨rfl, _⟩ | ⟨rfl, _⟩ | ⟨rfl, _, _, hm⟩ | ⟨rfl, _, _, hm⟩ | ⟨h1, h2, _, _, hm⟩ | ⟨rfl, _, _, hm⟩ | ⟨h1, h2, _, _, hm⟩
        · rw [if_pos rfl]; exact fun h => (nomatch h)
        · rw [if_neg (by decide), if_pos rfl]
          rw [if_neg (by decide), if_pos rfl] at ho
          rcases find_mem sc nm with ⟨_, hmm⟩ | ⟨x, hx, _⟩
          · rw [if_neg hmm] at ho; cases ho
          · rw [hx]; exact fun h => (nomatch h)
        · rw [if_neg (by decide), if_neg (by decide), if_pos rfl]
          rw [if_neg (by decide), if_neg (by decide), if_pos rfl] at ho
          have hsg : sgF fs nm kids.length = true := by
            cases hh : sgF fs nm kids.length with
            | true => rfl
            | false => rw [hh] at ho; cases ho
          unfold sgF at hsg
          obtain ⟨g, hg, hgg⟩ := List.any_eq_true.1 hsg
          simp at hgg
          obtain ⟨i, hi⟩ := List.mem_iff_getElem?.1 hg
          have hfn := hF.fn hi
          rw [hgg.1] at hfn
          rw [hfn]
          dsimp only
          obtain ⟨e1, e2⟩ := evA_out (fun t k => evl p fs fuel R t sc k) fuel g.more kids [] (k + 1) (by omega) hk1 (fun j t ht k' hk' hF' => ⟨hsub j t ht (by omega) k' hk' hF', fun x j h => by have := hbd t k' x j hF' h; omega⟩)
          refine ER.bind_out e1 (fun own k2 hv => ?_)
          obtain ⟨b1, b2, b3⟩ := evA_bd p fs fuel h3 R sc hS g.more kids [] (k + 1) own k2 (by intro y hy; cases hy) hk1 hv
          have hmap := e2 own k2 hv
          simp only [List.map_nil, List.append_nil] at hmap
          exact ih g.body own k2 (hW g hg).2.2.2 b1 (by rw [hmap]; exact ckw_none (hF i g hi).2) b3 (by omega)
        · rw [if_neg (by decide), if_neg (by decide), if_neg (by decide)]
          match kids, hm, hsub with
          | [a], _, hsub =>
            dsimp only
            rw [if_pos rfl]
            exact ER.bind_out (hsub 0 a rfl (by omega) (k + 1) (Nat.le_refl _) hk1) (fun x k2 _ h => (nomatch h))
        · rw [if_neg (by omega), if_neg (by omega), if_neg (by omega)]
          match kids, hm, hsub with
          | [a, b], _, hsub =>
            dsimp only
            rw [if_neg (by omega)]
            refine ER.bind_out (hsub 0 a rfl (by omega) (k + 1) (Nat.le_refl _) hk1) (fun x k2 hv => ?_)
            have b1 := hbd a (k + 1) x k2 hk1 hv
            exact ER.bind_out (hsub 1 b rfl (by omega) k2 (by omega) b1.2.2) (fun y k3 _ => rknS_out _ _ _ _ _)
        · rw [if_neg (by decide), if_neg (by decide), if_neg (by decide)]
          match kids, hm, hsub, hkid, hks with
          | [a, b], _, hsub, hkid, hks =>
            dsimp only
            rw [if_pos rfl]
            refine ER.bind_out (hsub 0 a rfl (by omega) (k + 1) (Nat.le_refl _) hk1) (fun x k2 hv => ?_)
            have b1 := hbd a (k + 1) x k2 hk1 hv
            refine ih b ((nm, x) :: sc) k2 hks.2.1 (fun y hy => ?_) ?_ b1.2.2 (by omega)
            · rcases List.mem_cons.1 hy with rfl | hy
              · exact b1.1
              · exact hS y hy
            · have := hkid 1 b rfl
              rw [if_pos ⟨rfl, rfl⟩] at this
              exact this
        · rw [if_neg (by omega), if_neg (by omega), if_neg (by omega)]
          match kids, hm, hsub with
          | [a, b, c], _, hsub =>
            dsimp only
            by_cases h10 : kd = 10
            · rw [if_pos h10]
              refine ER.bind_out (hsub 0 a rfl (by omega) (k + 1) (Nat.le_refl _) hk1) (fun x k2 hv => ?_)
              have b1 := hbd a (k + 1) x k2 hk1 hv
              refine ER.bind_out (hsub 1 b rfl (by omega) k2 (by omega) b1.2.2) (fun y k3 hv2 => ?_)
              have b2 := hbd b k2 y k3 b1.2.2 hv2
              split
              · exact hsub 2 c rfl (by omega) k3 (by omega) b2.2.2
              · exact fun h => (nomatch h)
            · rw [if_neg h10, if_pos (by omega)]
              refine ER.bind_out (hsub 0 a rfl (by omega) (k + 1) (Nat.le_refl _) hk1) (fun x k2 hv => ?_)
              have b1 := hbd a (k + 1) x k2 hk1 hv
              split
              · exact hsub 2 c rfl (by omega) k2 (by omega) b1.2.2
              · exact hsub 1 b rfl (by omega) k2 (by omega) b1.2.2

end Go.Proofs.YthemehdcakimgaiGreatDoor
