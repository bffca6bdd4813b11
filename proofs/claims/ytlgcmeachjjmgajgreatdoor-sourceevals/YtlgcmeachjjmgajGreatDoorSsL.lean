/- Programs as text, plainly: what is read and whose names stand has a value, or an end. -/
import Derived.Test.YtlgcmeachjjmgajGreatDoorBeV
namespace Go.Proofs.YtlgcmeachjjmgajGreatDoor

theorem nmM_some (fs : List FnT) : ∀ (k : Nat) (nm : List UInt8) (z : Int), nmM fs k nm = some z → ∃ j g, z = (j : Nat) ∧ j < k ∧ fs[j]? = some g ∧ g.name = nm
  | 0, nm, z, h => by rw [nmM] at h; cases h
  | k + 1, nm, z, h => by
    rw [nmM] at h
    cases hg : fs[k]? with
    | some g =>
      rw [hg] at h
      dsimp only at h
      unfold updI at h
      by_cases e : nm = g.name
      · rw [if_pos e] at h
        injection h with h
        exact ⟨k, g, h.symm, by omega, hg, e.symm⟩
      · rw [if_neg e] at h
        obtain ⟨j, g', h1, h2, h3⟩ := nmM_some fs k nm z h
        exact ⟨j, g', h1, by omega, h3⟩
    | none =>
      rw [hg] at h
      obtain ⟨j, g', h1, h2, h3⟩ := nmM_some fs k nm z h
      exact ⟨j, g', h1, by omega, h3⟩
theorem nmM_has (fs : List FnT) : ∀ (k j : Nat) (g : FnT), j < k → fs[j]? = some g → (nmM fs k g.name).isSome = true
  | 0, j, g, h, _ => by omega
  | k + 1, j, g, h, hg => by
    rw [nmM]
    cases hg' : fs[k]? with
    | some g' =>
      dsimp only
      unfold updI
      by_cases e : g.name = g'.name
      · rw [if_pos e]; rfl
      · rw [if_neg e]
        refine nmM_has fs k j g ?_ hg
        rcases Nat.lt_or_ge j k with h1 | h1
        · exact h1
        · have : j = k := by omega
          rw [this, hg'] at hg
          injection hg with hg
          exact absurd (by rw [hg]) e
    | none =>
      refine nmM_has fs k j g ?_ hg
      rcases Nat.lt_or_ge j k with h1 | h1
      · exact h1
      · have : j = k := by omega
        rw [this, hg'] at hg
        cases hg
/-- no function's name is another's, and the names within each stand -/
def FsOk (fs : List FnT) : Prop := ∀ i g, fs[i]? = some g → (fs.take i).any (fun h => h.name == g.name) = false ∧ ckw (sgF fs) g = none
theorem ckl_none (fs : List FnT) : ∀ (r : List FnT) (i : Nat), ckl fs r i = none → ∀ j g, r[j]? = some g → (fs.take (i + j)).any (fun h => h.name == g.name) = false ∧ ckw (sgF fs) g = none
  | [], _, _, j, g, hg => by simp at hg
  | x :: r, i, h, j, g, hg => by
    rw [ckl] at h
    split at h
    · cases h
    · rename_i ha
      split at h
      · cases h
      · rename_i hc
        cases j with
        | zero =>
          simp at hg
          subst hg
          exact ⟨by simpa using ha, hc⟩
        | succ j =>
          have := ckl_none fs r (i + 1) h j g (by simpa using hg)
          rwa [show i + 1 + j = i + (j + 1) by omega] at this
theorem ckn_none {fs : List FnT} {len : Nat} (h : ckn fs len = none) : FsOk fs ∧ fs.any (fun h => h.name == mainW) = true := by
  unfold ckn at h
  split at h
  · cases h
  · rename_i hc
    split at h
    · rename_i hm
      exact ⟨fun i g hg => by have := ckl_none fs fs 0 hc i g hg; rwa [Nat.zero_add] at this, hm⟩
    · cases h
theorem FsOk.one {fs : List FnT} (h : FsOk fs) {i j : Nat} {g g' : FnT} (hi : fs[i]? = some g) (hj : fs[j]? = some g') (e : g.name = g'.name) : i = j := by
  have key : ∀ (i j : Nat) (g g' : FnT), fs[i]? = some g → fs[j]? = some g' → g.name = g'.name → ¬ i < j := by
    intro i j g g' hi hj e hlt
    have h1 := (h j g' hj).1
    rw [List.any_eq_false] at h1
    exact h1 g (List.mem_of_getElem? (i := i) (by rw [List.getElem?_take_of_lt hlt]; exact hi)) (by simp [e])
  have h1 := key i j g g' hi hj e
  have h2 := key j i g' g hj hi e.symm
  omega
theorem FsOk.num {fs : List FnT} (h : FsOk fs) {i : Nat} {g : FnT} (hi : fs[i]? = some g) : nmM fs fs.length g.name = some (i : Int) := by
  have h1 := nmM_has fs fs.length i g (List.getElem?_eq_some_iff.1 hi).1 hi
  cases hz : nmM fs fs.length g.name with
  | none => rw [hz] at h1; cases h1
  | some z =>
    obtain ⟨j, g', e1, _, e2, e3⟩ := nmM_some fs _ _ _ hz
    rw [h.one hi e2 e3.symm, e1]
theorem FsOk.fn {fs : List FnT} (h : FsOk fs) {i : Nat} {g : FnT} (hi : fs[i]? = some g) : fnOf fs g.name = some g := by
  unfold fnOf
  rw [h.num hi]
  simpa using hi
theorem ckw_none {sig : List UInt8 → Nat → Bool} {g : FnT} (h : ckw sig g = none) : lk sig g.body (g.more.map (·.1)).reverse = none := by
  unfold ckw at h
  split at h
  · cases h
  · exact h
theorem lks_at {sig : List UInt8 → Nat → Bool} {k : Nat} {nm : List UInt8} {known : List (List UInt8)} : ∀ (ts : List Tr) (i : Nat), lks sig k nm known ts i = none → ∀ j t, ts[j]? = some t → lk sig t (if k = 9 ∧ i + j = 1 then nm :: known else known) = none
  | [], _, _, j, t, ht => by simp at ht
  | x :: r, i, h, j, t, ht => by
    rw [lks] at h
    split at h
    · cases h
    · rename_i hl
      cases j with
      | zero => simp at ht; subst ht; exact hl
      | succ j =>
        have := lks_at r (i + 1) h j t (by simpa using ht)
        rwa [show i + 1 + j = i + (j + 1) by omega] at this
theorem TWs.at : ∀ {ts : List Tr} {j : Nat} {t : Tr}, TWs ts → ts[j]? = some t → TW t
  | [], j, t, _, h => by simp at h
  | x :: r, 0, t, hk, h => by simp at h; subst h; exact hk.1
  | x :: r, j + 1, t, hk, h => TWs.at hk.2 (by simpa using h)
theorem evA_out (f : Tr → Nat → ER Int) (F : Nat) : ∀ (more : List (List UInt8 × Nat)) (ts : List Tr) (own : List (List UInt8 × Int)) (k : Nat), more.length ≤ ts.length → k ≤ F → (∀ (j : Nat) (t : Tr), ts[j]? = some t → ∀ k', k ≤ k' → k' ≤ F → f t k' ≠ .out ∧ ∀ x j, f t k' = .val x j → k' ≤ j ∧ j ≤ F) →
    evA f more ts own k ≠ .out ∧ ∀ ys j, evA f more ts own k = .val ys j → ys.map (·.1) = (more.map (·.1)).reverse ++ own.map (·.1)
  | [], ts, own, k, _, _, _ => by
    rw [evA]
    refine ⟨by simp, fun ys j h => ?_⟩
    injection h with h1 h2
    subst h1 h2
    simp
  | m :: r, [], own, k, hl, _, _ => by simp at hl
  | m :: r, t :: ts, own, k, hl, hkF, hf => by
    rw [evA]
    obtain ⟨h1, h2⟩ := hf 0 t rfl k (Nat.le_refl _) hkF
    cases hv : f t k with
    | out => exact absurd hv h1
    | stop e => exact ⟨fun h => (nomatch h), fun _ _ h => (nomatch h)⟩
    | val v k2 =>
      have hk := h2 v k2 hv
      obtain ⟨g1, g2⟩ := evA_out f F r ts ((m.1, v) :: own) k2 (by simpa using hl) hk.2 (fun j t' ht k' hk' hF' => hf (j + 1) t' (by simpa using ht) k' (by omega) hF')
      refine ⟨g1, fun ys j h => ?_⟩
      rw [g2 ys j h]
      simp
theorem evA_bd (p : Nat) (fs : List FnT) (fuel : Nat) (h3 : 3 ≤ p) (R : Nat) (sc : List (List UInt8 × Int)) (hs : ScB p sc) : ∀ (more : List (List UInt8 × Nat)) (ts : List Tr) (own : List (List UInt8 × Int)) (k : Nat) (ys : List (List UInt8 × Int)) (j : Nat), ScB p own → k ≤ fuel → evA (fun t k => evl p fs fuel R t sc k) more ts own k = .val ys j → ScB p ys ∧ k ≤ j ∧ j ≤ fuel
  | [], ts, own, k, ys, j, ho, hk, h => by rw [evA] at h; injection h with h1 h2; subst h1 h2; exact ⟨ho, Nat.le_refl _, hk⟩
  | m :: r, [], own, k, ys, j, ho, hk, h => by rw [evA] at h; cases h
  | m :: r, t :: ts, own, k, ys, j, ho, hk, h => by
    rw [evA] at h
    obtain ⟨v, k2, e1, e2⟩ := ER.bind_val h
    obtain ⟨b1, b2, b3⟩ := evl_bd p fs fuel h3 R t sc k v k2 hs hk e1
    obtain ⟨c1, c2, c3⟩ := evA_bd p fs fuel h3 R sc hs r ts _ k2 ys j (fun y hy => by
      rcases List.mem_cons.1 hy with rfl | hy
      · exact b1
      · exact ho y hy) b3 e2
    exact ⟨c1, by omega, c3⟩
theorem ER.bind_out {α β : Type} {r : ER α} {f : α → Nat → ER β} (h1 : r ≠ .out) (h2 : ∀ x k, r = .val x k → f x k ≠ .out) : r.bind f ≠ .out := by
  cases r with
  | val x k => exact h2 x k rfl
  | stop e => exact fun h => (nomatch h)
  | out => exact absurd rfl h1
theorem rknS_out (p kd : Nat) (a b : Int) (k : Nat) : rknS p kd a b k ≠ .out := by
  unfold rknS
  repeat' split
  all_goals exact fun h => (nomatch h)
/-- what stands by its names comes to a value or to an end -/
theorem evl_out (p : Nat) (fs : List FnT) (fuel : Nat) (h3 : 3 ≤ p) (hF : FsOk fs) (hW : ∀ g, g ∈ fs → FW g) : ∀ (R : Nat) (t : Tr) (sc : List (List UInt8 × Int)) (k : Nat), TW t → ScB p sc → lk (sgF fs) t (sc.map (·.1)) = none → k ≤ fuel → fuel + 1 ≤ R + k → evl p fs fuel R t sc k ≠ .out
  | 0, t, sc, k, _, _, _, hk, hR => by omega
  | R + 1, .node kd nm at' n kids, sc, k, hT, hS, hl, hk, hR => by
    have ih := evl_out p fs fuel h3 hF hW R
    rw [lk] at hl
    split at hl
    · cases hl
    · rename_i ho
      have ho : onf (sgF fs) kd nm kids.length (sc.map (·.1)) = 0 := by simpa using ho
      have hkid := lks_at kids 0 hl
      obtain ⟨hsh, hks⟩ := hT
      have hbd : ∀ t k' x j, k' ≤ fuel → evl p fs fuel R t sc k' = .val x j → (0 ≤ x ∧ x < (p : Int)) ∧ k' < j ∧ j ≤ fuel := fun t k' x j h h' => evl_bd p fs fuel h3 R t sc k' x j hS h h'
      have hsub : ∀ (j : Nat) (t : Tr), kids[j]? = some t → ¬ (kd = 9 ∧ j = 1) → ∀ k', k + 1 ≤ k' → k' ≤ fuel → evl p fs fuel R t sc k' ≠ .out := fun j t ht hne k' h1 h2 => ih t sc k' (TWs.at hks ht) hS (by have := hkid j t ht; rwa [Nat.zero_add, if_neg hne] at this) h2 (by omega)
      unfold evl
      split
      · exact fun h => (nomatch h)
      · rename_i hkf
        have hk1 : k + 1 ≤ fuel := by omega
        unfold onf at ho
        rcases hsh with ⟨rfl, _⟩ | ⟨rfl, _⟩ | ⟨rfl, _, _, hm⟩ | ⟨rfl, _, _, hm⟩ | ⟨h1, h2, _, _, hm⟩ | ⟨rfl, _, _, hm⟩ | ⟨h1, h2, _, _, hm⟩
        · rw [if_pos rfl]; exact fun h => (nomatch h)
        · rw [if_neg (by decide), if_pos rfl]
          rw [if_neg (by decide), if_pos rfl] at ho
          rcases find_mem sc nm with ⟨_, hmm⟩ | ⟨x, hx, _⟩
          · rw [if_neg hmm] at ho; cases ho
          · rw [hx]; exact fun h => (nomatch h)
        · rw [if_neg (by decide), if_neg (by decide), if_pos rfl]
          rw [if_neg (by decide), if_neg (by decide), if_pos rfl] at ho
          have hsg : sgF fs nm kids.length = true := by
            cases hh : sgF fs nm kids.length with
            | true => rfl
            | false => rw [hh] at ho; cases ho
          unfold sgF at hsg
          obtain ⟨g, hg, hgg⟩ := List.any_eq_true.1 hsg
          simp at hgg
          obtain ⟨i, hi⟩ := List.mem_iff_getElem?.1 hg
          have hfn := hF.fn hi
          rw [hgg.1] at hfn
          rw [hfn]
          dsimp only
          obtain ⟨e1, e2⟩ := evA_out (fun t k => evl p fs fuel R t sc k) fuel g.more kids [] (k + 1) (by omega) hk1 (fun j t ht k' hk' hF' => ⟨hsub j t ht (by omega) k' hk' hF', fun x j h => by have := hbd t k' x j hF' h; omega⟩)
          refine ER.bind_out e1 (fun own k2 hv => ?_)
          obtain ⟨b1, b2, b3⟩ := evA_bd p fs fuel h3 R sc hS g.more kids [] (k + 1) own k2 (by intro y hy; cases hy) hk1 hv
          have hmap := e2 own k2 hv
          simp only [List.map_nil, List.append_nil] at hmap
          exact ih g.body own k2 (hW g hg).2.2.2 b1 (by rw [hmap]; exact ckw_none (hF i g hi).2) b3 (by omega)
        · rw [if_neg (by decide), if_neg (by decide), if_neg (by decide)]
          match kids, hm, hsub with
          | [a], _, hsub =>
            dsimp only
            rw [if_pos rfl]
            exact ER.bind_out (hsub 0 a rfl (by omega) (k + 1) (Nat.le_refl _) hk1) (fun x k2 _ h => (nomatch h))
        · rw [if_neg (by omega), if_neg (by omega), if_neg (by omega)]
          match kids, hm, hsub with
          | [a, b], _, hsub =>
            dsimp only
            rw [if_neg (by omega)]
            refine ER.bind_out (hsub 0 a rfl (by omega) (k + 1) (Nat.le_refl _) hk1) (fun x k2 hv => ?_)
            have b1 := hbd a (k + 1) x k2 hk1 hv
            exact ER.bind_out (hsub 1 b rfl (by omega) k2 (by omega) b1.2.2) (fun y k3 _ => rknS_out _ _ _ _ _)
        · rw [if_neg (by decide), if_neg (by decide), if_neg (by decide)]
          match kids, hm, hsub, hkid, hks with
          | [a, b], _, hsub, hkid, hks =>
            dsimp only
            rw [if_pos rfl]
            refine ER.bind_out (hsub 0 a rfl (by omega) (k + 1) (Nat.le_refl _) hk1) (fun x k2 hv => ?_)
            have b1 := hbd a (k + 1) x k2 hk1 hv
            refine ih b ((nm, x) :: sc) k2 hks.2.1 (fun y hy => ?_) ?_ b1.2.2 (by omega)
            · rcases List.mem_cons.1 hy with rfl | hy
              · exact b1.1
              · exact hS y hy
            · have := hkid 1 b rfl
              rw [if_pos ⟨rfl, rfl⟩] at this
              exact this
        · rw [if_neg (by omega), if_neg (by omega), if_neg (by omega)]
          match kids, hm, hsub with
          | [a, b, c], _, hsub =>
            dsimp only
            by_cases h10 : kd = 10
            · rw [if_pos h10]
              refine ER.bind_out (hsub 0 a rfl (by omega) (k + 1) (Nat.le_refl _) hk1) (fun x k2 hv => ?_)
              have b1 := hbd a (k + 1) x k2 hk1 hv
              refine ER.bind_out (hsub 1 b rfl (by omega) k2 (by omega) b1.2.2) (fun y k3 hv2 => ?_)
              have b2 := hbd b k2 y k3 b1.2.2 hv2
              split
              · exact hsub 2 c rfl (by omega) k3 (by omega) b2.2.2
              · exact fun h => (nomatch h)
            · rw [if_neg h10, if_pos (by omega)]
              refine ER.bind_out (hsub 0 a rfl (by omega) (k + 1) (Nat.le_refl _) hk1) (fun x k2 hv => ?_)
              have b1 := hbd a (k + 1) x k2 hk1 hv
              split
              · exact hsub 2 c rfl (by omega) k2 (by omega) b1.2.2
              · exact hsub 1 b rfl (by omega) k2 (by omega) b1.2.2

end Go.Proofs.YtlgcmeachjjmgajGreatDoor
