/- Programs as text, plainly: what is read and whose names stand has a value, or an end. Package source: a call. Package source: a value, by what the part is. Package source: the value of a number. -/
import Derived.Test.YtlgcmeachjjmgajGreatDoorBgP
namespace Go.Proofs.YtlgcmeachjjmgajGreatDoor

theorem nmM_some (fs : List FnT) : ∀ (k : Nat) (nm : List UInt8) (z : Int), nmM fs k nm = some z → ∃ j g, z = (j : Nat) ∧ j < k ∧ fs[j]? = some g ∧ g.name = nm
  | 0, nm, z, h => by rw [nmM] at h; cases h
  | k + 1, nm, z, h => by
    rw [nmM] at h
    cases hg : fs[k]? with
    | some g =>
      rw [hg] at h
      dsimp only at h
      unfold updI at h
      by_cases e : nm = g.name
      · rw [if_pos e] at h
        injection h with h
        exact ⟨k, g, h.symm, by omega, hg, e.symm⟩
      · rw [if_neg e] at h
        obtain ⟨j, g', h1, h2, h3⟩ := nmM_some fs k nm z h
        exact ⟨j, g', h1, by omega, h3⟩
    | none =>
      rw [hg] at h
      obtain ⟨j, g', h1, h2, h3⟩ := nmM_some fs k nm z h
      exact ⟨j, g', h1, by omega, h3⟩
theorem nmM_has (fs : List FnT) : ∀ (k j : Nat) (g : FnT), j < k → fs[j]? = some g → (nmM fs k g.name).isSome = true
  | 0, j, g, h, _ => by omega
  | k + 1, j, g, h, hg => by
    rw [nmM]
    cases hg' : fs[k]? with
    | some g' =>
      dsimp only
      unfold updI
      by_cases e : g.name = g'.name
      · rw [if_pos e]; rfl
      · rw [if_neg e]
        refine nmM_has fs k j g ?_ hg
        rcases Nat.lt_or_ge j k with h1 | h1
        · exact h1
        · have : j = k := by omega
          rw [this, hg'] at hg
          injection hg with hg
          exact absurd (by rw [hg]) e
    | none =>
      refine nmM_has fs k j g ?_ hg
      rcases Nat.lt_or_ge j k with h1 | h1
      · exact h1
      · have : j = k := by omega
        rw [this, hg'] at hg
        cases hg
/-- no function's name is another's, and the names within each stand -/
def FsOk (fs : List FnT) : Prop := ∀ i g, fs[i]? = some g → (fs.take i).any (fun h => h.name == g.name) = false ∧ ckw (sgF fs) g = none
theorem ckl_none (fs : List FnT) : ∀ (r : List FnT) (i : Nat), ckl fs r i = none → ∀ j g, r[j]? = some g → (fs.take (i + j)).any (fun h => h.name == g.name) = false ∧ ckw (sgF fs) g = none
  | [], _, _, j, g, hg => by simp at hg
  | x :: r, i, h, j, g, hg => by
    rw [ckl] at h
    split at h
    · cases h
    · rename_i ha
      split at h
      · cases h
      · rename_i hc
        cases j with
        | zero =>
          simp at hg
          subst hg
          exact ⟨by simpa using ha, hc⟩
        | succ j =>
          have := ckl_none fs r (i + 1) h j g (by simpa using hg)
          rwa [show i + 1 + j = i + (j + 1) by omega] at this
theorem ckn_none {fs : List FnT} {len : Nat} (h : ckn fs len = none) : FsOk fs ∧ fs.any (fun h => h.name == mainW) = true := by
  unfold ckn at h
  split at h
  · cases h
  · rename_i hc
    split at h
    · rename_i hm
      exact ⟨fun i g hg => by have := ckl_none fs fs 0 hc i g hg; rwa [Nat.zero_add] at this, hm⟩
    · cases h
theorem FsOk.one {fs : List FnT} (h : FsOk fs) {i j : Nat} {g g' : FnT} (hi : fs[i]? = some g) (hj : fs[j]? = some g') (e : g.name = g'.name) : i = j := by
  have key : ∀ (i j : Nat) (g g' : FnT), fs[i]? = some g → fs[j]? = some g' → g.name = g'.name → ¬ i < j := by
    intro i j g g' hi hj e hlt
    have h1 := (h j g' hj).1
    rw [List.any_eq_false] at h1
    exact h1 g (List.mem_of_getElem? (i := i) (by rw [List.getElem?_take_of_lt hlt]; exact hi)) (by simp [e])
  have h1 := key i j g g' hi hj e
  have h2 := key j i g' g hj hi e.symm
  omega
theorem FsOk.num {fs : List FnT} (h : FsOk fs) {i : Nat} {g : FnT} (hi : fs[i]? = some g) : nmM fs fs.length g.name = some (i : Int) := by
  have h1 := nmM_has fs fs.length i g (List.getElem?_eq_some_iff.1 hi).1 hi
  cases hz : nmM fs fs.length g.name with
  | none => rw [hz] at h1; cases h1
  | some z =>
    obtain ⟨j, g', e1, _, e2, e3⟩ := nmM_some fs _ _ _ hz
    rw [h.one hi e2 e3.symm, e1]
theorem FsOk.fn {fs : List FnT} (h : FsOk fs) {i : Nat} {g : FnT} (hi : fs[i]? = some g) : fnOf fs g.name = some g := by
  unfold fnOf
  rw [h.num hi]
  simpa using hi
theorem ckw_none {sig : List UInt8 → Nat → Bool} {g : FnT} (h : ckw sig g = none) : lk sig g.body (g.more.map (·.1)).reverse = none := by
  unfold ckw at h
  split at h
  · cases h
  · exact h
theorem lks_at {sig : List UInt8 → Nat → Bool} {k : Nat} {nm : List UInt8} {known : List (List UInt8)} : ∀ (ts : List Tr) (i : Nat), lks sig k nm known ts i = none → ∀ j t, ts[j]? = some t → lk sig t (if k = 9 ∧ i + j = 1 then nm :: known else known) = none
  | [], _, _, j, t, ht => by simp at ht
  | x :: r, i, h, j, t, ht => by
    rw [lks] at h
    split at h
    · cases h
    · rename_i hl
      cases j with
      | zero => simp at ht; subst ht; exact hl
      | succ j =>
        have := lks_at r (i + 1) h j t (by simpa using ht)
        rwa [show i + 1 + j = i + (j + 1) by omega] at this
theorem TWs.at : ∀ {ts : List Tr} {j : Nat} {t : Tr}, TWs ts → ts[j]? = some t → TW t
  | [], j, t, _, h => by simp at h
  | x :: r, 0, t, hk, h => by simp at h; subst h; exact hk.1
  | x :: r, j + 1, t, hk, h => TWs.at hk.2 (by simpa using h)
theorem evA_out (f : Tr → Nat → ER Int) (F : Nat) : ∀ (more : List (List UInt8 × Nat)) (ts : List Tr) (own : List (List UInt8 × Int)) (k : Nat), more.length ≤ ts.length → k ≤ F → (∀ (j : Nat) (t : Tr), ts[j]? = some t → ∀ k', k ≤ k' → k' ≤ F → f t k' ≠ .out ∧ ∀ x j, f t k' = .val x j → k' ≤ j ∧ j ≤ F) →
    evA f more ts own k ≠ .out ∧ ∀ ys j, evA f more ts own k = .val ys j → ys.map (·.1) = (more.map (·.1)).reverse ++ own.map (·.1)
  | [], ts, own, k, _, _, _ => by
    rw [evA]
    refine ⟨by simp, fun ys j h => ?_⟩
    injection h with h1 h2
    subst h1 h2
    simp
  | m :: r, [], own, k, hl, _, _ => by simp at hl
  | m :: r, t :: ts, own, k, hl, hkF, hf => by
    rw [evA]
    obtain ⟨h1, h2⟩ := hf 0 t rfl k (Nat.le_refl _) hkF
    cases hv : f t k with
    | out => exact absurd hv h1
    | stop e => exact ⟨fun h => (nomatch h), fun _ _ h => (nomatch h)⟩
    | val v k2 =>
      have hk := h2 v k2 hv
      obtain ⟨g1, g2⟩ := evA_out f F r ts ((m.1, v) :: own) k2 (by simpa using hl) hk.2 (fun j t' ht k' hk' hF' => hf (j + 1) t' (by simpa using ht) k' (by omega) hF')
      refine ⟨g1, fun ys j h => ?_⟩
      rw [g2 ys j h]
      simp
theorem evA_bd (p : Nat) (fs : List FnT) (fuel : Nat) (h3 : 3 ≤ p) (R : Nat) (sc : List (List UInt8 × Int)) (hs : ScB p sc) : ∀ (more : List (List UInt8 × Nat)) (ts : List Tr) (own : List (List UInt8 × Int)) (k : Nat) (ys : List (List UInt8 × Int)) (j : Nat), ScB p own → k ≤ fuel → evA (fun t k => evl p fs fuel R t sc k) more ts own k = .val ys j → ScB p ys ∧ k ≤ j ∧ j ≤ fuel
  | [], ts, own, k, ys, j, ho, hk, h => by rw [evA] at h; injection h with h1 h2; subst h1 h2; exact ⟨ho, Nat.le_refl _, hk⟩
  | m :: r, [], own, k, ys, j, ho, hk, h => by rw [evA] at h; cases h
  | m :: r, t :: ts, own, k, ys, j, ho, hk, h => by
    rw [evA] at h
    obtain ⟨v, k2, e1, e2⟩ := ER.bind_val h
    obtain ⟨b1, b2, b3⟩ := evl_bd p fs fuel h3 R t sc k v k2 hs hk e1
    obtain ⟨c1, c2, c3⟩ := evA_bd p fs fuel h3 R sc hs r ts _ k2 ys j (fun y hy => by
      rcases List.mem_cons.1 hy with rfl | hy
      · exact b1
      · exact ho y hy) b3 e2
    exact ⟨c1, by omega, c3⟩
theorem ER.bind_out {α β : Type} {r : ER α} {f : α → Nat → ER β} (h1 : r ≠ .out) (h2 : ∀ x k, r = .val x k → f x k ≠ .out) : r.bind f ≠ .out := by
  cases r with
  | val x k => exact h2 x k rfl
  | stop e => exact fun h => (nomatch h)
  | out => exact absurd rfl h1
theorem rknS_out (p kd : Nat) (a b : Int) (k : Nat) : rknS p kd a b k ≠ .out := by
  unfold rknS
  repeat' split
  all_goals exact fun h => (nomatch h)
/-- what stands by its names comes to a value or to an end -/
theorem evl_out (p : Nat) (fs : List FnT) (fuel : Nat) (h3 : 3 ≤ p) (hF : FsOk fs) (hW : ∀ g, g ∈ fs → FW g) : ∀ (R : Nat) (t : Tr) (sc : List (List UInt8 × Int)) (k : Nat), TW t → ScB p sc → lk (sgF fs) t (sc.map (·.1)) = none → k ≤ fuel → fuel + 1 ≤ R + k → evl p fs fuel R t sc k ≠ .out
  | 0, t, sc, k, _, _, _, hk, hR => by omega
  | R + 1, .node kd nm at' n kids, sc, k, hT, hS, hl, hk, hR => by
    have ih := evl_out p fs fuel h3 hF hW R
    rw [lk] at hl
    split at hl
    · cases hl
    · rename_i ho
      have ho : onf (sgF fs) kd nm kids.length (sc.map (·.1)) = 0 := by simpa using ho
      have hkid := lks_at kids 0 hl
      obtain ⟨hsh, hks⟩ := hT
      have hbd : ∀ t k' x j, k' ≤ fuel → evl p fs fuel R t sc k' = .val x j → (0 ≤ x ∧ x < (p : Int)) ∧ k' < j ∧ j ≤ fuel := fun t k' x j h h' => evl_bd p fs fuel h3 R t sc k' x j hS h h'
      have hsub : ∀ (j : Nat) (t : Tr), kids[j]? = some t → ¬ (kd = 9 ∧ j = 1) → ∀ k', k + 1 ≤ k' → k' ≤ fuel → evl p fs fuel R t sc k' ≠ .out := fun j t ht hne k' h1 h2 => ih t sc k' (TWs.at hks ht) hS (by have := hkid j t ht; rwa [Nat.zero_add, if_neg hne] at this) h2 (by omega)
      unfold evl
      split
      · exact fun h => (nomatch h)
      · rename_i hkf
        have hk1 : k + 1 ≤ fuel := by omega
        unfold onf at ho
        rcases hsh with ⟨rfl, _⟩ | ⟨rfl, _⟩ | ⟨rfl, _, _, hm⟩ | ⟨rfl, _, _, hm⟩ | ⟨h1, h2, _, _, hm⟩ | ⟨rfl, _, _, hm⟩ | ⟨h1, h2, _, _, hm⟩
        · rw [if_pos rfl]; exact fun h => (nomatch h)
        · rw [if_neg (by decide), if_pos rfl]
          rw [if_neg (by decide), if_pos rfl] at ho
          rcases find_mem sc nm with ⟨_, hmm⟩ | ⟨x, hx, _⟩
          · rw [if_neg hmm] at ho; cases ho
          · rw [hx]; exact fun h => (nomatch h)
        · rw [if_neg (by decide), if_neg (by decide), if_pos rfl]
          rw [if_neg (by decide), if_neg (by decide), if_pos rfl] at ho
          have hsg : sgF fs nm kids.length = true := by
            cases hh : sgF fs nm kids.length with
            | true => rfl
            | false => rw [hh] at ho; cases ho
          unfold sgF at hsg
          obtain ⟨g, hg, hgg⟩ := List.any_eq_true.1 hsg
          simp at hgg
          obtain ⟨i, hi⟩ := List.mem_iff_getElem?.1 hg
          have hfn := hF.fn hi
          rw [hgg.1] at hfn
          rw [hfn]
          dsimp only
          obtain ⟨e1, e2⟩ := evA_out (fun t k => evl p fs fuel R t sc k) fuel g.more kids [] (k + 1) (by omega) hk1 (fun j t ht k' hk' hF' => ⟨hsub j t ht (by omega) k' hk' hF', fun x j h => by have := hbd t k' x j hF' h; omega⟩)
          refine ER.bind_out e1 (fun own k2 hv => ?_)
          obtain ⟨b1, b2, b3⟩ := evA_bd p fs fuel h3 R sc hS g.more kids [] (k + 1) own k2 (by intro y hy; cases hy) hk1 hv
          have hmap := e2 own k2 hv
          simp only [List.map_nil, List.append_nil] at hmap
          exact ih g.body own k2 (hW g hg).2.2.2 b1 (by rw [hmap]; exact ckw_none (hF i g hi).2) b3 (by omega)
        · rw [if_neg (by decide), if_neg (by decide), if_neg (by decide)]
          match kids, hm, hsub with
          | [a], _, hsub =>
            dsimp only
            rw [if_pos rfl]
            exact ER.bind_out (hsub 0 a rfl (by omega) (k + 1) (Nat.le_refl _) hk1) (fun x k2 _ h => (nomatch h))
        · rw [if_neg (by omega), if_neg (by omega), if_neg (by omega)]
          match kids, hm, hsub with
          | [a, b], _, hsub =>
            dsimp only
            rw [if_neg (by omega)]
            refine ER.bind_out (hsub 0 a rfl (by omega) (k + 1) (Nat.le_refl _) hk1) (fun x k2 hv => ?_)
            have b1 := hbd a (k + 1) x k2 hk1 hv
            exact ER.bind_out (hsub 1 b rfl (by omega) k2 (by omega) b1.2.2) (fun y k3 _ => rknS_out _ _ _ _ _)
        · rw [if_neg (by decide), if_neg (by decide), if_neg (by decide)]
          match kids, hm, hsub, hkid, hks with
          | [a, b], _, hsub, hkid, hks =>
            dsimp only
            rw [if_pos rfl]
            refine ER.bind_out (hsub 0 a rfl (by omega) (k + 1) (Nat.le_refl _) hk1) (fun x k2 hv => ?_)
            have b1 := hbd a (k + 1) x k2 hk1 hv
            refine ih b ((nm, x) :: sc) k2 hks.2.1 (fun y hy => ?_) ?_ b1.2.2 (by omega)
            · rcases List.mem_cons.1 hy with rfl | hy
              · exact b1.1
              · exact hS y hy
            · have := hkid 1 b rfl
              rw [if_pos ⟨rfl, rfl⟩] at this
              exact this
        · rw [if_neg (by omega), if_neg (by omega), if_neg (by omega)]
          match kids, hm, hsub with
          | [a, b, c], _, hsub =>
            dsimp only
            by_cases h10 : kd = 10
            · rw [if_pos h10]
              refine ER.bind_out (hsub 0 a rfl (by omega) (k + 1) (Nat.le_refl _) hk1) (fun x k2 hv => ?_)
              have b1 := hbd a (k + 1) x k2 hk1 hv
              refine ER.bind_out (hsub 1 b rfl (by omega) k2 (by omega) b1.2.2) (fun y k3 hv2 => ?_)
              have b2 := hbd b k2 y k3 b1.2.2 hv2
              split
              · exact hsub 2 c rfl (by omega) k3 (by omega) b2.2.2
              · exact fun h => (nomatch h)
            · rw [if_neg h10, if_pos (by omega)]
              refine ER.bind_out (hsub 0 a rfl (by omega) (k + 1) (Nat.le_refl _) hk1) (fun x k2 hv => ?_)
              have b1 := hbd a (k + 1) x k2 hk1 hv
              split
              · exact hsub 2 c rfl (by omega) k2 (by omega) b1.2.2
              · exact hsub 1 b rfl (by omega) k2 (by omega) b1.2.2

end Go.Proofs.YtlgcmeachjjmgajGreatDoor

namespace Go.Proofs.YtlgcmeachjjmgajGreatDoor
open Go.RowKit

theorem shareS {Good F : Nat → World → Prop} {goal : Prop} (h2 : (∀ G W, Good G W → F G W) → goal) (h1 : ∀ G W, Good G W → F G W) : goal := h2 h1
theorem belD {N : Nat} {w W : World} (h : Below N w W) : Below N w W.drew := ⟨h.os, h.tape, h.output, h.size, h.block⟩

set_option maxRecDepth 100000 in
set_option maxHeartbeats 2000000 in
theorem call_of (p V fb pg fuel lo : Nat) (fs : List FnT) (w0 : World) (R : Nat) (h3 : 3 ≤ p) (hV0 : w0.heap.size ≤ V) (hPg : PgAt lo w0 pg fs) (hW : ∀ g, g ∈ fs → FW g) (IH : EvC p V fb pg fuel fs w0 R) (at' n : Nat) (nm : List UInt8) (kids : List Tr) (b : Nat) (a : Option Addr) (sc : List (List UInt8 × Int)) (k : Nat) (w : World) (hb : Below w0.heap.size w0 w) (hE : EvAt w V fb pg k fuel) (hk : k ≤ fuel) (hP : PT 0 w0 (.node 2 nm at' n kids) (.pointer (some ⟨b, 0, none⟩))) (hx : TWs kids) (hnm : nm.length ≤ 4000) (hS : ScP w (.pointer a) sc) (hSB : ScB p sc)
    (g : FnT) (hg : fnOf fs nm = some g) (r : ER Int) (hr : r = (evA (fun t k => evl p fs fuel R t sc k) g.more kids [] k).bind fun own k2 => evl p fs fuel R g.body own k2) (hro : r ≠ .out) :
    Calls Tryz.prog 93 #[.pointer (some ⟨V, 0, none⟩), .pointer (some ⟨b, 0, none⟩), .pointer a] w (EvP (Value.int .i64) V fb pg fuel w r) := by
  have hgi : ∃ i : Nat, nmM fs fs.length nm = some (i : Int) ∧ fs[i]? = some g := by
    unfold fnOf at hg
    cases hz : nmM fs fs.length nm with
    | none => rw [hz] at hg; cases hg
    | some z =>
      obtain ⟨j, g', e1, _, e2, _⟩ := nmM_some fs _ _ _ hz
      rw [hz, e1] at hg
      exact ⟨j, by rw [e1], by simpa using hg⟩
  obtain ⟨i, hi, hgi⟩ := hgi
  obtain ⟨pa, pc, B, hpb, _, _, hcc, hF, hM⟩ := hPg
  have hil : i < fs.length := (List.getElem?_eq_some_iff.1 hgi).1
  obtain ⟨kb, a2, c2, bb, rfl, _, d0, d1, d2, d3, d4, d5⟩ := hF i g hgi
  have q0 : w0.cell? ⟨pg, 0, none⟩ = some (.slice (some ⟨kb, 0, none⟩) fs.length pc) := by simp [World.cell?, hpb]
  have q1 : w0.cell? ⟨pg, 1, none⟩ = some (.map (some B)) := by simp [World.cell?, hpb]
  obtain ⟨b', av, c, e0, _, hbk, hks⟩ := hP
  injection e0 with e0
  injection e0 with e0
  injection e0 with e0
  subst e0
  have p1 : w0.cell? ⟨b, 1, none⟩ = some (.string (bs nm)) := by simp [World.cell?, hbk]
  have v1 : w.cell? ⟨V, 1, none⟩ = some (.pointer (some ⟨pg, 0, none⟩)) := by simp [World.cell?, show w.heap[V]? = _ from hE]
  have HFN : Hid (∀ W, Below w.heap.size w W → Calls Tryz.prog 56 #[.pointer (some ⟨pg, 0, none⟩), .string (bs nm)] W fun e w' => e = .returned (.agg #[.string (bs g.name), .int .i64 (g.at' : Int), .slice a2 g.more.length c2, .pointer (some ⟨bb, 0, none⟩)]) ∧ Below W.heap.size W w') := fun W hw => by
    have hB := hb.trans (hw.mono hb.size)
    exact function_at pg i fs.length pc kb B fs nm g a2 c2 bb W ((hB.cell (p := ⟨pg, 0, none⟩) (World.block_lt_of_cell? _ _ q0)).trans q0) ((hB.cell (p := ⟨pg, 1, none⟩) (World.block_lt_of_cell? _ _ q1)).trans q1) hil (hM.below hB) hi hnm ((hB.cell (p := ⟨kb, i * 4, none⟩) (World.block_lt_of_cell? _ _ d0)).trans d0) ((hB.cell (p := ⟨kb, i * 4 + 1, none⟩) (World.block_lt_of_cell? _ _ d1)).trans d1) ((hB.cell (p := ⟨kb, i * 4 + 2, none⟩) (World.block_lt_of_cell? _ _ d2)).trans d2) ((hB.cell (p := ⟨kb, i * 4 + 3, none⟩) (World.block_lt_of_cell? _ _ d3)).trans d3)
  have HS : Hid (∀ W, Below w.heap.size w W → W.cell? ⟨V, 1, none⟩ = some (.pointer (some ⟨pg, 0, none⟩)) ∧ W.cell? ⟨b, 1, none⟩ = some (.string (bs nm)) ∧ True) := fun W hw => by
    have hB := hb.trans (hw.mono hb.size)
    exact ⟨(hw.cell (p := ⟨V, 1, none⟩) (World.block_lt_of_cell? _ _ v1)).trans v1, (hB.cell (p := ⟨b, 1, none⟩) (World.block_lt_of_cell? _ _ p1)).trans p1, trivial⟩
  have HND := hid d4
  have HPD := hid d5
  have HKS := hid hks
  have HBK := hid hbk
  have HB := hid hb
  have HE := hid hE
  have HX := hid hx
  have HSC := hid hS
  have HSB := hid hSB
  have HR := hid hr
  have HRO := hid hro
  have HFW := hid (hW g (List.mem_of_getElem? hgi))
  have HIH := hid IH
  clear hgi hi hpb hcc hF hM d0 d1 d2 d3 d4 d5 q0 q1 hbk hks hb hE hx hS hSB hr hro hW IH p1 v1 hg hil
  go_enter Tryz.func93, Tryz.ntmps93
  go_wp2_with fail
  have hbd : Below w.heap.size w w.drew := belD (Below.refl _ _)
  refine wp_region_held_drew (S := (fun W => Below w.heap.size w W)) (by kernel_rfl) hbd (fun hHeld => ?_)
  refine wpAnyH_takeS (i := 0) (v := .pointer (some ⟨V, 0, none⟩)) rfl (by kernel_rfl) (by kernel_rfl) (by kernel_rfl) (fun _ _ _ h => h) (by rfl) (fun W hC => by go_simp) hHeld ?_
  simp only [Act.put, List.setIfInBounds_toArray, List.set_cons_zero, List.set_cons_succ]
  refine wpAnyH_takeS (i := 1) (v := .pointer (some ⟨V, 0, none⟩)) rfl (by kernel_rfl) (by kernel_rfl) (by kernel_rfl) (fun _ _ _ h => h) (by rfl) (fun W hC => by go_simp) hHeld ?_
  simp only [Act.put, List.setIfInBounds_toArray, List.set_cons_zero, List.set_cons_succ]
  refine wpAnyH_takeS (i := 2) (v := .pointer (some ⟨V, 1, none⟩)) rfl (by kernel_rfl) (by kernel_rfl) (by kernel_rfl) (fun _ _ _ h => h) (by rfl) (fun W hC => by go_simp) hHeld ?_
  simp only [Act.put, List.setIfInBounds_toArray, List.set_cons_zero, List.set_cons_succ]
  refine wpAnyH_takeS (i := 3) (v := .pointer (some ⟨pg, 0, none⟩)) rfl (by kernel_rfl) (by kernel_rfl) (by kernel_rfl) (fun _ _ _ h => h) (by rfl) (fun W hC => by (obtain ⟨y0, y1, _⟩ := HS.out W hC); go_simp) hHeld ?_
  simp only [Act.put, List.setIfInBounds_toArray, List.set_cons_zero, List.set_cons_succ]
  refine wpAnyH_takeS (i := 4) (v := .pointer (some ⟨b, 0, none⟩)) rfl (by kernel_rfl) (by kernel_rfl) (by kernel_rfl) (fun _ _ _ h => h) (by rfl) (fun W hC => by go_simp) hHeld ?_
  simp only [Act.put, List.setIfInBounds_toArray, List.set_cons_zero, List.set_cons_succ]
  refine wpAnyH_takeS (i := 5) (v := .pointer (some ⟨b, 0, none⟩)) rfl (by kernel_rfl) (by kernel_rfl) (by kernel_rfl) (fun _ _ _ h => h) (by rfl) (fun W hC => by go_simp) hHeld ?_
  simp only [Act.put, List.setIfInBounds_toArray, List.set_cons_zero, List.set_cons_succ]
  refine wpAnyH_takeS (i := 6) (v := .pointer (some ⟨b, 1, none⟩)) rfl (by kernel_rfl) (by kernel_rfl) (by kernel_rfl) (fun _ _ _ h => h) (by rfl) (fun W hC => by go_simp) hHeld ?_
  simp only [Act.put, List.setIfInBounds_toArray, List.set_cons_zero, List.set_cons_succ]
  refine wpAnyH_takeS (i := 7) (v := .pointer (some ⟨b, 1, none⟩)) rfl (by kernel_rfl) (by kernel_rfl) (by kernel_rfl) (fun _ _ _ h => h) (by rfl) (fun W hC => by go_simp) hHeld ?_
  simp only [Act.put, List.setIfInBounds_toArray, List.set_cons_zero, List.set_cons_succ]
  refine wpAnyH_takeS (i := 8) (v := .string (bs nm)) rfl (by kernel_rfl) (by kernel_rfl) (by kernel_rfl) (fun _ _ _ h => h) (by rfl) (fun W hC => by (obtain ⟨y0, y1, _⟩ := HS.out W hC); go_simp) hHeld ?_
  simp only [Act.put, List.setIfInBounds_toArray, List.set_cons_zero, List.set_cons_succ]
  refine shareS (F := ?F) (Good := fun G W => Below w.heap.size w W ∧ W.heap[G]? = some (.cells #[.string (bs g.name), .int .i64 (g.at' : Int), .slice a2 g.more.length c2, .pointer (some ⟨bb, 0, none⟩)] 82 (0, 0)) ∧ w.heap.size ≤ G) (fun REST => ?b1) ?b2
  case b1 =>
    refine wpAnyH_ready (rs := [9, 10]) (by kernel_rfl) (by simp) ?_
    refine AllReadyH.consS rfl (fun K hK => ?_) (AllReadyH.consS rfl (fun K hK => ?_) AllReadyH.nil)
    · go_simp
      refine (HFN.out _ hbd).mono ?_
      rintro e w1 ⟨rfl, hb1⟩
      have hB1 : Below w.heap.size w w1 := hbd.trans (hb1.mono hbd.size)
      refine hK.out _ _ hB1 (fun hHeld => ?_)
      clear hK K
      refine wpAnyH_ready (rs := [10]) (by kernel_rfl) (by simp) ?_
      refine AllReadyH.consS rfl (fun K hK => ?_) AllReadyH.nil
      go_simp
      refine hK.out _ _ (hB1.trans (((Below.refl _ w1).alloc (Nat.le_refl _) _).mono hB1.size)) (fun hHeld => ?_)
      clear hK K
      refine wpAnyH_ready (rs := [11]) (by kernel_rfl) (by simp) ?_
      refine AllReadyH.consS rfl (fun K hK => ?_) AllReadyH.nil
      go_simp
      have hB2 : Below w.heap.size w (w1.alloc (.cells #[.string (bs g.name), .int .i64 (g.at' : Int), .slice a2 g.more.length c2, .pointer (some ⟨bb, 0, none⟩)] 82)) := hB1.trans (((Below.refl _ w1).alloc (Nat.le_refl _) _).mono hB1.size)
      refine hK.out _ _ hB2 (fun hHeld => ?_)
      clear hK K hHeld
      have hn1 : (w1.alloc (.cells #[.string (bs g.name), .int .i64 (g.at' : Int), .slice a2 g.more.length c2, .pointer (some ⟨bb, 0, none⟩)] 82)).heap[w1.heap.size]? = some (.cells #[.string (bs g.name), .int .i64 (g.at' : Int), .slice a2 g.more.length c2, .pointer (some ⟨bb, 0, none⟩)] 82 (0, 0)) := heap_alloc_new w1 _
      have hG1 : w.heap.size ≤ w1.heap.size := hB1.size
      generalize w1.alloc (.cells #[.string (bs g.name), .int .i64 (g.at' : Int), .slice a2 g.more.length c2, .pointer (some ⟨bb, 0, none⟩)] 82) = W2 at hB2 hn1 ⊢
      generalize w1.heap.size = G at hn1 hG1 ⊢
      exact REST G W2 ⟨hB2, hn1, hG1⟩
    · go_simp
      have hBz : Below w.heap.size w (w.alloc (.cells #[.string ⟨#[]⟩, .int .i64 0, .slice none 0 0, .pointer none] 82)).drew := belD ((Below.refl _ w).alloc (Nat.le_refl _) _)
      refine hK.out _ _ hBz (fun hHeld => ?_)
      clear hK K
      refine wpAnyH_ready (rs := [9]) (by kernel_rfl) (by simp) ?_
      refine AllReadyH.consS rfl (fun K hK => ?_) AllReadyH.nil
      go_simp
      refine (HFN.out _ hBz).mono ?_
      rintro e w1 ⟨rfl, hb1⟩
      have hB1 : Below w.heap.size w w1 := hBz.trans (hb1.mono hBz.size)
      refine hK.out _ _ hB1 (fun hHeld => ?_)
      clear hK K
      have hz : w1.heap[w.heap.size]? = some (.cells #[.string ⟨#[]⟩, .int .i64 0, .slice none 0 0, .pointer none] 82 (0, 0)) := (hb1.block _ (by simp [World.drew])).trans (heap_alloc_new w _)
      have z0 : w1.cell? ⟨w.heap.size, 0, none⟩ = some (.string ⟨#[]⟩) := by simp [World.cell?, hz]
      have z1 : w1.cell? ⟨w.heap.size, 1, none⟩ = some (.int .i64 0) := by simp [World.cell?, hz]
      have z2 : w1.cell? ⟨w.heap.size, 2, none⟩ = some (.slice none 0 0) := by simp [World.cell?, hz]
      have z3 : w1.cell? ⟨w.heap.size, 3, none⟩ = some (.pointer none) := by simp [World.cell?, hz]
      have zf : ∀ i, w1.frozen? ⟨w.heap.size, i, none⟩ = false := fun i => frozen_of_row w1 w.heap.size i _ _ hz
      refine wpAnyH_ready (rs := [11]) (by kernel_rfl) (by simp) ?_
      refine AllReadyH.consS rfl (fun K hK => ?_) AllReadyH.nil
      go_simp
      obtain ⟨W2, hW2⟩ : ∃ W2, W2 = (((w1.setCell ⟨w.heap.size, 0, none⟩ (.string (bs g.name))).setCell ⟨w.heap.size, 1, none⟩ (.int .i64 (g.at' : Int))).setCell ⟨w.heap.size, 2, none⟩ (.slice a2 g.more.length c2)).setCell ⟨w.heap.size, 3, none⟩ (.pointer (some ⟨bb, 0, none⟩)) := ⟨_, rfl⟩
      have hn1 : W2.heap[w.heap.size]? = some (.cells #[.string (bs g.name), .int .i64 (g.at' : Int), .slice a2 g.more.length c2, .pointer (some ⟨bb, 0, none⟩)] 82 (0, 0)) := by
        rw [hW2]
        exact heap_setCell_same _ w.heap.size 3 _ _ _ (heap_setCell_same _ w.heap.size 2 _ _ _ (heap_setCell_same _ w.heap.size 1 _ _ _ (heap_setCell_same _ w.heap.size 0 _ _ _ hz)))
      have hB2 : Below w.heap.size w W2 := by
        rw [hW2]
        exact (((hB1.setCell (p := ⟨w.heap.size, 0, none⟩) (Nat.le_refl _) _).setCell (p := ⟨w.heap.size, 1, none⟩) (Nat.le_refl _) _).setCell (p := ⟨w.heap.size, 2, none⟩) (Nat.le_refl _) _).setCell (p := ⟨w.heap.size, 3, none⟩) (Nat.le_refl _) _
      rw [← hW2]
      clear hW2
      refine hK.out _ _ hB2 (fun hHeld => ?_)
      clear hK K hHeld
      have hG1 : w.heap.size ≤ w.heap.size := Nat.le_refl _
      exact REST w.heap.size W2 ⟨hB2, hn1, hG1⟩
  case b2 =>
    rintro G W ⟨hBW, hGW, hGl⟩
    refine wpAnyH_done (by kernel_rfl) ?_ _
    have g2 : W.cell? ⟨G, 2, none⟩ = some (.slice a2 g.more.length c2) := by simp [World.cell?, hGW]
    obtain ⟨nm1, hn1⟩ : ∃ m, m = g.more.length := ⟨_, rfl⟩
    have hn4 : nm1 ≤ 4000 := by rw [hn1]; exact HFW.out.2.2.1
    have HNM := hid hn1
    rw [← hn1] at g2
    have HGW := hid hGW
    have HBW := hid hBW
    have HGL := hid hGl
    clear hGW hBW hGl hn1
    go_wp2_with fail
    go_loopw [8, 24] (fun v iv wr => ∃ (j k2 : Nat) (ao : Option Addr) (own : List (List UInt8 × Int)), j ≤ nm1 ∧ iv = .int .i64 j ∧ v = .pointer ao ∧ Hid (ScP wr (.pointer ao) own) ∧ Hid (ScB p own) ∧ Hid (EvAt wr V fb pg k2 fuel) ∧ Hid (k2 ≤ fuel) ∧ Hid (Fr V w wr ∧ W.heap.size ≤ wr.heap.size ∧ wr.heap[G]? = W.heap[G]?) ∧
        Hid (r = (evA (fun t k => evl p fs fuel R t sc k) (g.more.drop j) (kids.drop j) own k2).bind fun own k2 => evl p fs fuel R g.body own k2))
      (fun _ iv _ => nm1 - (intOf iv).toNat)
    case atStart => exact ⟨0, k, none, [], Nat.zero_le _, rfl, rfl, rfl, (fun y hy => by cases hy), (HBW.out.block _ HE.out.lt).trans HE.out, hk, ⟨Fr.below HBW.out (Nat.le_of_lt HE.out.lt), Nat.le_refl _, rfl⟩, HR⟩
    case round =>
      obtain ⟨j, k2, ao, own, hj, rfl, rfl, hso, hbo, hev, hkf, hfr, hrr⟩ := hrel
      have hB0 : Below w0.heap.size w0 wr := HB.out.trans ((hfr.out.1).1.mono hV0 |>.mono (Nat.le_refl _))
      by_cases hlt : j < nm1
      · have hlt2 : (j : Int) < (nm1 : Int) := by omega
        have hks : IntKind.i64.wrap ((j : Int) + 1) = (j : Int) + 1 := by rw [IntKind.wrap_i64]; omega
        have hjm : j < g.more.length := by have := HNM.out; omega
        obtain ⟨x, hx⟩ : ∃ x, g.more[j]? = some x := ⟨_, List.getElem?_eq_getElem hjm⟩
        have hrr2 := hrr.out
        rw [List.drop_eq_getElem_cons hjm, show g.more[j] = x from Option.some.inj ((List.getElem?_eq_getElem hjm).symm.trans hx)] at hrr2
        have hjk : j < kids.length := by
          rcases Nat.lt_or_ge j kids.length with h | h
          · exact h
          · rw [List.drop_eq_nil_iff.2 h, evA] at hrr2
            exact absurd hrr2 HRO.out
        obtain ⟨t, ht⟩ : ∃ t, kids[j]? = some t := ⟨_, List.getElem?_eq_getElem hjk⟩
        rw [List.drop_eq_getElem_cons hjk, show kids[j] = t from Option.some.inj ((List.getElem?_eq_getElem hjk).symm.trans ht), evA] at hrr2
        obtain ⟨gb, rfl, _, m0, m1⟩ := HND.out j x hx
        obtain ⟨gk, vt, rfl, _, t0, hpt⟩ := PTBs.at HKS.out ht
        rw [Nat.zero_add] at t0
        obtain ⟨tb, rfl⟩ := PT.form hpt
        have c0 := (hB0.cell (p := ⟨gb, j * 2, none⟩) (World.block_lt_of_cell? _ _ m0)).trans m0
        have c1 := (hB0.cell (p := ⟨gb, j * 2 + 1, none⟩) (World.block_lt_of_cell? _ _ m1)).trans m1
        have k4 : w0.cell? ⟨b, 4, none⟩ = some (.slice (some ⟨gk, 0, none⟩) kids.length c) := by simp [World.cell?, HBK.out]
        have k4' := (hB0.cell (p := ⟨b, 4, none⟩) (World.block_lt_of_cell? _ _ k4)).trans k4
        have t0' := (hB0.cell (p := ⟨gk, j, none⟩) (World.block_lt_of_cell? _ _ t0)).trans t0
        have hVlt := hev.out.lt
        obtain ⟨nk, hnk⟩ : ∃ nk, nk = kids.length := ⟨_, rfl⟩
        rw [← hnk] at k4'
        have hjn : (j : Int) < (nk : Int) := by omega
        have hj0 : (0 : Int) ≤ (j : Int) := by omega
        have hbA : Below wr.heap.size wr (wr.alloc (.cells #[.string (bs x.1), .int .i64 (x.2 : Int)] 78)) := (Below.refl _ _).alloc (Nat.le_refl _) _
        have s0 : (wr.alloc (.cells #[.string (bs x.1), .int .i64 (x.2 : Int)] 78)).cell? ⟨wr.heap.size, 0, none⟩ = some (.string (bs x.1)) := by go_simp
        have s1 := (hbA.cell (p := ⟨b, 4, none⟩) (World.block_lt_of_cell? _ _ k4')).trans k4'
        have s2 := (hbA.cell (p := ⟨gk, j, none⟩) (World.block_lt_of_cell? _ _ t0')).trans t0'
        have HBA := hid hbA
        have HRR := hid hrr2
        have HPT := hid hpt
        have HTT := hid (TWs.at HX.out ht)
        have hbV : b ≠ V := by have h : b < w0.heap.size := World.block_lt_of_cell? _ _ k4; omega
        have hgV : gk ≠ V := by have h : gk < w0.heap.size := World.block_lt_of_cell? _ _ t0; omega
        have HB0 := hid hB0
        have HNE := hid (And.intro hbV hgV)
        clear hrr hrr2 hx ht m0 m1 t0 k4 k4' t0' hpt hB0 hjm hjk hnk hbA hbV hgV
        go_wp2_with fail
        have HSA := hid (hso.out.below HBA.out)
        have HSC2 : Hid (ScP (wr.alloc (.cells #[.string (bs x.1), .int .i64 (x.2 : Int)] 78)) (.pointer a) sc) := (HSC.out.fr HE.out hfr.out.1).below HBA.out
        have HEA : Hid (EvAt (wr.alloc (.cells #[.string (bs x.1), .int .i64 (x.2 : Int)] 78)) V fb pg k2 fuel) := (HBA.out.block _ hev.out.lt).trans hev.out
        have HFA : Hid (Fr V w (wr.alloc (.cells #[.string (bs x.1), .int .i64 (x.2 : Int)] 78)) ∧ W.heap.size ≤ (wr.alloc (.cells #[.string (bs x.1), .int .i64 (x.2 : Int)] 78)).heap.size ∧ (wr.alloc (.cells #[.string (bs x.1), .int .i64 (x.2 : Int)] 78)).heap[G]? = W.heap[G]?) :=
          ⟨hfr.out.1.more HBA.out HE.out.lt, Nat.le_trans hfr.out.2.1 HBA.out.size, (HBA.out.block _ (by have := (Array.getElem?_eq_some_iff.1 HGW.out).1; have := hfr.out.2.1; omega)).trans hfr.out.2.2⟩
        have HBZ := hid (HB0.out.trans (HBA.out.mono HB0.out.size))
        obtain ⟨N, hN⟩ : ∃ N, N = wr.heap.size := ⟨_, rfl⟩
        have HNV : Hid (N ≠ V) := by unfold Hid; omega
        rw [← hN] at s0 ⊢
        clear hN HBA hso hev hfr HB0 c0 c1
        generalize wr.alloc (.cells #[.string (bs x.1), .int .i64 (x.2 : Int)] 78) = wA at *
        refine wp_region_held_drew (S := (fun W => W.cell? ⟨N, 0, none⟩ = some (.string (bs x.1)) ∧ W.cell? ⟨b, 4, none⟩ = some (.slice (some ⟨gk, 0, none⟩) nk c) ∧ W.cell? ⟨gk, j, none⟩ = some (.pointer (some ⟨tb, 0, none⟩)))) (by kernel_rfl) ⟨s0, s1, s2⟩ (fun hHeld => ?_)
        refine wpAnyH_takeS (i := 0) (v := .pointer ao) rfl (by kernel_rfl) (by kernel_rfl) (by kernel_rfl) (fun _ _ _ h => h) (by rfl) (fun W hC => by go_simp) hHeld ?_
        simp only [Act.put, List.setIfInBounds_toArray, List.set_cons_zero, List.set_cons_succ]
        refine wpAnyH_takeS (i := 1) (v := .pointer (some ⟨N, 0, none⟩)) rfl (by kernel_rfl) (by kernel_rfl) (by kernel_rfl) (fun _ _ _ h => h) (by rfl) (fun W hC => by go_simp) hHeld ?_
        simp only [Act.put, List.setIfInBounds_toArray, List.set_cons_zero, List.set_cons_succ]
        refine wpAnyH_takeS (i := 2) (v := .string (bs x.1)) rfl (by kernel_rfl) (by kernel_rfl) (by kernel_rfl) (fun _ _ _ h => h) (by rfl) (fun W hC => by (obtain ⟨y0, y1, y2⟩ := hC); go_simp) hHeld ?_
        simp only [Act.put, List.setIfInBounds_toArray, List.set_cons_zero, List.set_cons_succ]
        refine wpAnyH_takeS (i := 3) (v := .pointer (some ⟨V, 0, none⟩)) rfl (by kernel_rfl) (by kernel_rfl) (by kernel_rfl) (fun _ _ _ h => h) (by rfl) (fun W hC => by go_simp) hHeld ?_
        simp only [Act.put, List.setIfInBounds_toArray, List.set_cons_zero, List.set_cons_succ]
        refine wpAnyH_takeS (i := 4) (v := .pointer (some ⟨b, 0, none⟩)) rfl (by kernel_rfl) (by kernel_rfl) (by kernel_rfl) (fun _ _ _ h => h) (by rfl) (fun W hC => by go_simp) hHeld ?_
        simp only [Act.put, List.setIfInBounds_toArray, List.set_cons_zero, List.set_cons_succ]
        refine wpAnyH_takeS (i := 5) (v := .pointer (some ⟨b, 0, none⟩)) rfl (by kernel_rfl) (by kernel_rfl) (by kernel_rfl) (fun _ _ _ h => h) (by rfl) (fun W hC => by go_simp) hHeld ?_
        simp only [Act.put, List.setIfInBounds_toArray, List.set_cons_zero, List.set_cons_succ]
        refine wpAnyH_takeS (i := 6) (v := .pointer (some ⟨b, 4, none⟩)) rfl (by kernel_rfl) (by kernel_rfl) (by kernel_rfl) (fun _ _ _ h => h) (by rfl) (fun W hC => by go_simp) hHeld ?_
        simp only [Act.put, List.setIfInBounds_toArray, List.set_cons_zero, List.set_cons_succ]
        refine wpAnyH_takeS (i := 7) (v := .slice (some ⟨gk, 0, none⟩) nk c) rfl (by kernel_rfl) (by kernel_rfl) (by kernel_rfl) (fun _ _ _ h => h) (by rfl) (fun W hC => by (obtain ⟨y0, y1, y2⟩ := hC); go_simp) hHeld ?_
        simp only [Act.put, List.setIfInBounds_toArray, List.set_cons_zero, List.set_cons_succ]
        refine wpAnyH_takeS (i := 8) (v := .int .i64 (j : Int)) rfl (by kernel_rfl) (by kernel_rfl) (by kernel_rfl) (fun _ _ _ h => h) (by rfl) (fun W hC => by go_simp) hHeld ?_
        simp only [Act.put, List.setIfInBounds_toArray, List.set_cons_zero, List.set_cons_succ]
        refine wpAnyH_takeS (i := 9) (v := .pointer (some ⟨gk, j, none⟩)) rfl (by kernel_rfl) (by kernel_rfl) (by kernel_rfl) (fun _ _ _ h => h) (by rfl) (fun W hC => by go_simp) hHeld ?_
        simp only [Act.put, List.setIfInBounds_toArray, List.set_cons_zero, List.set_cons_succ]
        refine wpAnyH_takeS (i := 10) (v := .pointer (some ⟨tb, 0, none⟩)) rfl (by kernel_rfl) (by kernel_rfl) (by kernel_rfl) (fun _ _ _ h => h) (by rfl) (fun W hC => by (obtain ⟨y0, y1, y2⟩ := hC); go_simp) hHeld ?_
        simp only [Act.put, List.setIfInBounds_toArray, List.set_cons_zero, List.set_cons_succ]
        refine wpAnyH_takeS (i := 11) (v := .pointer a) rfl (by kernel_rfl) (by kernel_rfl) (by kernel_rfl) (fun _ _ _ h => h) (by rfl) (fun W hC => by go_simp) hHeld ?_
        simp only [Act.put, List.setIfInBounds_toArray, List.set_cons_zero, List.set_cons_succ]
        refine wpAnyH_ready (rs := [12]) (by kernel_rfl) (by simp) ?_
        refine AllReadyH.consS rfl (fun K hK => ?_) AllReadyH.nil
        go_simp
        have hne : evl p fs fuel R t sc k2 ≠ .out := ER.bind_ne (ER.bind_ne (by rw [← HRR.out]; exact HRO.out))
        refine (HIH.out t _ a sc k2 wA.drew (belD HBZ.out) HEA.out hkf.out (PT.mono HPT.out (Nat.le_refl _)) HTT.out (HSC2.out.fr HEA.out ⟨belD (Below.refl _ _), fun _ _ _ => rfl⟩) HSB.out hne).mono ?_
        intro e w3 he
        obtain ⟨hf3, he⟩ := he
        have hf3' : Fr V wA w3 := Fr.trans ⟨belD (Below.refl _ _), fun _ _ _ => rfl⟩ hf3
        cases hv : evl p fs fuel R t sc k2 with
        | out => exact absurd hv hne
        | stop er =>
          rw [hv] at he
          have he' : e = pncE er := he
          subst he'
          have hr1 := HRR.out
          rw [hv] at hr1
          have hr2 : r = .stop er := hr1
          subst hr2
          exact ⟨rfl, HFA.out.1.trans hf3', rfl⟩
        | val v k3 =>
          rw [hv] at he
          obtain ⟨rfl, hE3⟩ := he
          have hr1 := HRR.out
          rw [hv] at hr1
          have HR3 : Hid (r = (evA (fun t k => evl p fs fuel R t sc k) (g.more.drop (j + 1)) (kids.drop (j + 1)) ((x.1, v) :: own) k3).bind fun own k2 => evl p fs fuel R g.body own k2) := hr1
          have hbd3 := evl_bd p fs fuel h3 R t sc k2 v k3 HSB.out hkf.out hv
          have HS3 := hid (HSA.out.fr HEA.out hf3')
          have HF3 : Hid (Fr V w w3 ∧ W.heap.size ≤ w3.heap.size ∧ w3.heap[G]? = W.heap[G]?) := ⟨HFA.out.1.trans hf3', Nat.le_trans HFA.out.2.1 hf3'.size, (hf3'.2 G (by have := (Array.getElem?_eq_some_iff.1 HGW.out).1; have := HFA.out.2.1; omega) (by have := HGL.out; have := HE.out.lt; omega)).trans HFA.out.2.2⟩
          have HE3 := hid hE3
          have HBB := hid hbd3
          refine hK.out _ _ ⟨hf3'.cell HNV.out s0, hf3'.cell HNE.out.1 s1, hf3'.cell HNE.out.2 s2⟩ (fun hHeld => ?_)
          clear hK K hr1 hbd3 hf3 hE3 hv hne
          refine wpAnyH_ready (rs := [13]) (by kernel_rfl) (by simp) ?_
          refine AllReadyH.consS rfl (fun K hK => ?_) AllReadyH.nil
          go_simp
          refine (with_any (bs x.1) v ao w3).mono ?_
          rintro e w4 ⟨rfl, rfl⟩
          have hbA4 : Below w3.heap.size w3 (w3.alloc (.cells #[.string (bs x.1), .int .i64 v, .pointer ao] 208)) := (Below.refl _ _).alloc (Nat.le_refl _) _
          refine hK.out _ _ ⟨(hbA4.cell (p := ⟨N, 0, none⟩) (World.block_lt_of_cell? _ _ hHeld.1)).trans hHeld.1, (hbA4.cell (p := ⟨b, 4, none⟩) (World.block_lt_of_cell? _ _ hHeld.2.1)).trans hHeld.2.1, (hbA4.cell (p := ⟨gk, j, none⟩) (World.block_lt_of_cell? _ _ hHeld.2.2)).trans hHeld.2.2⟩ (fun hHeld2 => ?_)
          clear hK K
          have HS4 := hid (HS3.out.with x.1 v)
          have HE4 : Hid (EvAt (w3.alloc (.cells #[.string (bs x.1), .int .i64 v, .pointer ao] 208)) V fb pg k3 fuel) := (hbA4.block _ HE3.out.lt).trans HE3.out
          have HF4 : Hid (Fr V w (w3.alloc (.cells #[.string (bs x.1), .int .i64 v, .pointer ao] 208)) ∧ W.heap.size ≤ (w3.alloc (.cells #[.string (bs x.1), .int .i64 v, .pointer ao] 208)).heap.size ∧ (w3.alloc (.cells #[.string (bs x.1), .int .i64 v, .pointer ao] 208)).heap[G]? = W.heap[G]?) :=
            ⟨HF3.out.1.more hbA4 HE.out.lt, Nat.le_trans HF3.out.2.1 hbA4.size, (hbA4.block _ (by have := (Array.getElem?_eq_some_iff.1 HGW.out).1; have := HF3.out.2.1; omega)).trans HF3.out.2.2⟩
          clear hbA4 HS3 HE3 HF3 hHeld
          generalize w3.alloc (.cells #[.string (bs x.1), .int .i64 v, .pointer ao] 208) = w5 at *
          refine wpAnyH_ready (rs := [14]) (by kernel_rfl) (by simp) ?_
          refine AllReadyH.consS rfl (fun K hK => ?_) AllReadyH.nil
          go_simp
          refine hK.out _ _ hHeld2 (fun _ => ?_)
          clear hK K hHeld2 s0 s1 s2
          refine wpAnyH_done (by kernel_rfl) ?_ _
          go_wp2_with fail
          go_roundw
          case rel =>
            refine ⟨j + 1, k3, _, (x.1, v) :: own, by omega, by go_num, rfl, HS4, ?_, HE4, HBB.out.2.2, HF4, HR3⟩
            intro y hy
            rcases List.mem_cons.1 hy with rfl | hy
            · exact HBB.out.1
            · exact hbo.out y hy
          case measure => simp [intOf]; omega
      · obtain rfl : j = nm1 := by omega
        have hlt2 : ¬ (j : Int) < (j : Int) := by omega
        have hrr2 := hrr.out
        rw [HNM.out, List.drop_length, evA] at hrr2
        have hrr3 : r = evl p fs fuel R g.body own k2 := hrr2
        have hGr : wr.heap[G]? = _ := hfr.out.2.2.trans HGW.out
        have c3 : wr.cell? ⟨G, 3, none⟩ = some (.pointer (some ⟨bb, 0, none⟩)) := by simp [World.cell?, hGr]
        have HC := hid (HIH.out g.body (.pointer (some ⟨bb, 0, none⟩)) ao own k2 wr hB0 hev.out hkf.out (HPD.out.mono (Nat.zero_le _)) HFW.out.2.2.2 hso.out hbo.out (by rw [← hrr3]; exact HRO.out))
        rw [← hrr3] at HC
        have HF1 := hid hfr.out.1
        clear hrr hrr2 hrr3 hGr hso hbo hev hfr hB0 HIH HR
        go_wp2_with fail
        refine HC.out.mono ?_
        intro e w3 he
        obtain ⟨hf3, he⟩ := he
        cases r with
        | out => exact he.elim
        | stop er =>
          have he' : e = pncE er := he
          subst he'
          exact ⟨rfl, HF1.out.trans hf3, rfl⟩
        | val v k3 =>
          obtain ⟨rfl, hE3⟩ := he
          have HE3 := hid hE3
          have HF3 := hid (HF1.out.trans hf3)
          clear hE3 hf3
          go_wp2_with fail
          go_ret
          exact ⟨HF3.out, rfl, HE3.out⟩

end Go.Proofs.YtlgcmeachjjmgajGreatDoor

namespace Go.Proofs.YtlgcmeachjjmgajGreatDoor
open Go.RowKit

set_option maxRecDepth 100000 in
set_option maxHeartbeats 1000000 in
theorem val_long (V fb pg fuel : Nat) (b : Value) (a : Option Addr) (k : Nat) (w : World) (hE : EvAt w V fb pg k fuel) (hf : fuel ≤ 1000000) (hk : k = fuel) :
    Calls Tryz.prog 59 #[.pointer (some ⟨V, 0, none⟩), b, .pointer a] w (EvP (Value.int .i64) V fb pg fuel w (.stop 8)) := by
  have HL := hid (look_any V fb pg k fuel w hE hf (by omega))
  rw [if_pos hk] at HL
  clear hE hf hk
  go_enter Tryz.func59, Tryz.ntmps59
  go_wp2_with fail
  refine HL.out.mono ?_
  rintro e w1 ⟨hf1, rfl⟩
  exact ⟨rfl, hf1, rfl⟩

set_option maxRecDepth 100000 in
set_option maxHeartbeats 1000000 in
theorem val_name (V fb pg fuel : Nat) (w0 : World) (hV0 : w0.heap.size ≤ V) (b : Nat) (a : Option Addr) (k : Nat) (w : World) (hb : Below w0.heap.size w0 w) (hE : EvAt w V fb pg k fuel) (hf : fuel ≤ 1000000) (hk : k < fuel) (at' n : Nat) (nm : List UInt8) (av : Option Addr) (c nk : Nat) (hbk : w0.heap[b]? = some (.cells #[.int .i64 1, .string (bs nm), .int .i64 (at' : Int), .int .i64 (n : Int), .slice av nk c] 211 (0, 0))) (sc : List (List UInt8 × Int)) (hS : ScP w (.pointer a) sc) (x : List UInt8 × Int) (hx : sc.find? (fun x => x.1 == nm) = some x) (r : ER Int) (hr : r = .val x.2 (k + 1)) :
    Calls Tryz.prog 59 #[.pointer (some ⟨V, 0, none⟩), .pointer (some ⟨b, 0, none⟩), .pointer a] w (EvP (Value.int .i64) V fb pg fuel w r) := by
  have HL := hid (look_any V fb pg k fuel w hE hf (by omega))
  rw [if_neg (by omega)] at HL
  have p0 : w0.cell? ⟨b, 0, none⟩ = some (.int .i64 1) := by simp [World.cell?, hbk]
  have p1 : w0.cell? ⟨b, 1, none⟩ = some (.string (bs nm)) := by simp [World.cell?, hbk]
  have HW : Hid (∀ w1, Fr V w w1 → w1.cell? ⟨b, 0, none⟩ = some (.int .i64 1) ∧ w1.cell? ⟨b, 1, none⟩ = some (.string (bs nm)) ∧ ScP w1 (.pointer a) sc) := fun w1 hf => by
    have hb1 := hb.trans (hf.1.mono hV0)
    exact ⟨(hb1.cell (p := ⟨b, 0, none⟩) (World.block_lt_of_cell? _ _ p0)).trans p0, (hb1.cell (p := ⟨b, 1, none⟩) (World.block_lt_of_cell? _ _ p1)).trans p1, hS.fr hE hf⟩
  have HX := hid hx
  subst hr
  clear hb hE hf hk hbk hS hx p0 p1
  go_enter Tryz.func59, Tryz.ntmps59
  go_wp2_with fail
  refine HL.out.mono ?_
  rintro e w1 ⟨hf1, rfl, hE1⟩
  obtain ⟨q0, q1, hs1⟩ := HW.out w1 hf1
  have HF := hid (find_any nm _ sc w1 hs1)
  have HF1 := hid hf1
  have HE1 := hid hE1
  clear hf1 hE1 HL HW hs1
  go_wp2_with fail
  refine HF.out.mono ?_
  rintro e w2 ⟨rfl, u, rfl, hu⟩
  rw [HX.out] at hu
  obtain ⟨ub, uu, rfl, hub⟩ := hu
  have u1 : w2.cell? ⟨ub, 1, none⟩ = some (.int .i64 x.2) := by simp [World.cell?, hub]
  clear hub HF
  go_wp2_with fail
  go_ret
  exact ⟨HF1.out, rfl, HE1.out⟩

set_option maxRecDepth 100000 in
set_option maxHeartbeats 1000000 in
theorem val_sub (V fb pg fuel : Nat) (w0 : World) (hV0 : w0.heap.size ≤ V) (b : Nat) (a : Option Addr) (k : Nat) (w : World) (hb : Below w0.heap.size w0 w) (hE : EvAt w V fb pg k fuel) (hf : fuel ≤ 1000000) (hk : k < fuel) (kd at' n : Nat) (nm : List UInt8) (av : Option Addr) (c nk : Nat) (hbk : w0.heap[b]? = some (.cells #[.int .i64 (kd : Int), .string (bs nm), .int .i64 (at' : Int), .int .i64 (n : Int), .slice av nk c] 211 (0, 0))) (r : ER Int) (hkd : kd = 2 ∨ (4 ≤ kd ∧ kd ≤ 8))
    (hC : kd = 2 → ∀ w1, Fr V w w1 → EvAt w1 V fb pg (k + 1) fuel → Calls Tryz.prog 93 #[.pointer (some ⟨V, 0, none⟩), .pointer (some ⟨b, 0, none⟩), .pointer a] w1 (EvP (Value.int .i64) V fb pg fuel w1 r))
    (hC4 : 4 ≤ kd → ∀ w1, Fr V w w1 → EvAt w1 V fb pg (k + 1) fuel → Calls Tryz.prog 97 #[.pointer (some ⟨V, 0, none⟩), .pointer (some ⟨b, 0, none⟩), .pointer a] w1 (EvP (Value.int .i64) V fb pg fuel w1 r)) :
    Calls Tryz.prog 59 #[.pointer (some ⟨V, 0, none⟩), .pointer (some ⟨b, 0, none⟩), .pointer a] w (EvP (Value.int .i64) V fb pg fuel w r) := by
  have HL := hid (look_any V fb pg k fuel w hE hf (by omega))
  rw [if_neg (by omega)] at HL
  have p0 : w0.cell? ⟨b, 0, none⟩ = some (.int .i64 (kd : Int)) := by simp [World.cell?, hbk]
  have HW : Hid (∀ w1, Fr V w w1 → w1.cell? ⟨b, 0, none⟩ = some (.int .i64 (kd : Int))) := fun w1 hf => by
    have hb1 := hb.trans (hf.1.mono hV0)
    exact (hb1.cell (p := ⟨b, 0, none⟩) (World.block_lt_of_cell? _ _ p0)).trans p0
  have HC := hid hC
  have HC4 := hid hC4
  clear hb hE hf hk hbk p0 hC hC4
  have fin : ∀ (w1 : World), Fr V w w1 → ∀ (e : Ending) (w2 : World), EvP (Value.int .i64) V fb pg fuel w1 r e w2 → EvP (Value.int .i64) V fb pg fuel w r e w2 := fun w1 h1 e w2 h => ⟨h1.trans h.1, h.2⟩
  have HFIN := hid fin
  clear fin
  obtain ⟨RR, hRR⟩ : ∃ RR : Ending → World → Prop, RR = EvP (Value.int .i64) V fb pg fuel w r := ⟨_, rfl⟩
  rw [← hRR] at HFIN ⊢
  clear hRR
  obtain rfl | rfl | rfl | rfl | rfl | rfl : kd = 2 ∨ kd = 4 ∨ kd = 5 ∨ kd = 6 ∨ kd = 7 ∨ kd = 8 := by omega
  · go_enter Tryz.func59, Tryz.ntmps59
    go_wp2_with fail
    refine HL.out.mono ?_
    rintro e w1 ⟨hf1, rfl, hE1⟩
    have q0 := HW.out w1 hf1
    have hc := HC.out (by trivial) w1 hf1 hE1
    have HCC := hid hc
    have HF2 := hid (HFIN.out w1 hf1)
    clear hc hf1 hE1 HW HC HC4 HFIN HL
    go_wp2_with fail
    refine HCC.out.mono ?_
    intro e w2 he
    have hE2 := HF2.out e w2 he
    obtain ⟨_, he⟩ := he
    cases r with
    | out => exact he.elim
    | stop er =>
      have he' : e = pncE er := he
      subst he'
      exact ⟨rfl, hE2⟩
    | val v k3 =>
      obtain ⟨rfl, _⟩ := he
      have HE2 := hid hE2
      clear hE2
      go_wp2_with fail
      exact HE2.out
  · go_enter Tryz.func59, Tryz.ntmps59
    go_wp2_with fail
    refine HL.out.mono ?_
    rintro e w1 ⟨hf1, rfl, hE1⟩
    have q0 := HW.out w1 hf1
    have hc := HC4.out (by first | decide | trivial) w1 hf1 hE1
    have HCC := hid hc
    have HF2 := hid (HFIN.out w1 hf1)
    clear hc hf1 hE1 HW HC HC4 HFIN HL
    go_wp2_with fail
    refine HCC.out.mono ?_
    intro e w2 he
    have hE2 := HF2.out e w2 he
    obtain ⟨_, he⟩ := he
    cases r with
    | out => exact he.elim
    | stop er =>
      have he' : e = pncE er := he
      subst he'
      exact ⟨rfl, hE2⟩
    | val v k3 =>
      obtain ⟨rfl, _⟩ := he
      have HE2 := hid hE2
      clear hE2
      go_wp2_with fail
      exact HE2.out
  · go_enter Tryz.func59, Tryz.ntmps59
    go_wp2_with fail
    refine HL.out.mono ?_
    rintro e w1 ⟨hf1, rfl, hE1⟩
    have q0 := HW.out w1 hf1
    have hc := HC4.out (by first | decide | trivial) w1 hf1 hE1
    have HCC := hid hc
    have HF2 := hid (HFIN.out w1 hf1)
    clear hc hf1 hE1 HW HC HC4 HFIN HL
    go_wp2_with fail
    refine HCC.out.mono ?_
    intro e w2 he
    have hE2 := HF2.out e w2 he
    obtain ⟨_, he⟩ := he
    cases r with
    | out => exact he.elim
    | stop er =>
      have he' : e = pncE er := he
      subst he'
      exact ⟨rfl, hE2⟩
    | val v k3 =>
      obtain ⟨rfl, _⟩ := he
      have HE2 := hid hE2
      clear hE2
      go_wp2_with fail
      exact HE2.out
  · go_enter Tryz.func59, Tryz.ntmps59
    go_wp2_with fail
    refine HL.out.mono ?_
    rintro e w1 ⟨hf1, rfl, hE1⟩
    have q0 := HW.out w1 hf1
    have hc := HC4.out (by first | decide | trivial) w1 hf1 hE1
    have HCC := hid hc
    have HF2 := hid (HFIN.out w1 hf1)
    clear hc hf1 hE1 HW HC HC4 HFIN HL
    go_wp2_with fail
    refine HCC.out.mono ?_
    intro e w2 he
    have hE2 := HF2.out e w2 he
    obtain ⟨_, he⟩ := he
    cases r with
    | out => exact he.elim
    | stop er =>
      have he' : e = pncE er := he
      subst he'
      exact ⟨rfl, hE2⟩
    | val v k3 =>
      obtain ⟨rfl, _⟩ := he
      have HE2 := hid hE2
      clear hE2
      go_wp2_with fail
      exact HE2.out
  · go_enter Tryz.func59, Tryz.ntmps59
    go_wp2_with fail
    refine HL.out.mono ?_
    rintro e w1 ⟨hf1, rfl, hE1⟩
    have q0 := HW.out w1 hf1
    have hc := HC4.out (by first | decide | trivial) w1 hf1 hE1
    have HCC := hid hc
    have HF2 := hid (HFIN.out w1 hf1)
    clear hc hf1 hE1 HW HC HC4 HFIN HL
    go_wp2_with fail
    refine HCC.out.mono ?_
    intro e w2 he
    have hE2 := HF2.out e w2 he
    obtain ⟨_, he⟩ := he
    cases r with
    | out => exact he.elim
    | stop er =>
      have he' : e = pncE er := he
      subst he'
      exact ⟨rfl, hE2⟩
    | val v k3 =>
      obtain ⟨rfl, _⟩ := he
      have HE2 := hid hE2
      clear hE2
      go_wp2_with fail
      exact HE2.out
  · go_enter Tryz.func59, Tryz.ntmps59
    go_wp2_with fail
    refine HL.out.mono ?_
    rintro e w1 ⟨hf1, rfl, hE1⟩
    have q0 := HW.out w1 hf1
    have hc := HC4.out (by first | decide | trivial) w1 hf1 hE1
    have HCC := hid hc
    have HF2 := hid (HFIN.out w1 hf1)
    clear hc hf1 hE1 HW HC HC4 HFIN HL
    go_wp2_with fail
    refine HCC.out.mono ?_
    intro e w2 he
    have hE2 := HF2.out e w2 he
    obtain ⟨_, he⟩ := he
    cases r with
    | out => exact he.elim
    | stop er =>
      have he' : e = pncE er := he
      subst he'
      exact ⟨rfl, hE2⟩
    | val v k3 =>
      obtain ⟨rfl, _⟩ := he
      have HE2 := hid hE2
      clear hE2
      go_wp2_with fail
      exact HE2.out

end Go.Proofs.YtlgcmeachjjmgajGreatDoor

namespace Go.Proofs.YtlgcmeachjjmgajGreatDoor
open Go.RowKit

set_option maxRecDepth 100000 in
set_option maxHeartbeats 1000000 in
theorem val_num (p V fb pg fuel : Nat) (w0 : World) (h3 : 3 ≤ p) (h4 : p ≤ 2147483647) (hp : w0.cell? ⟨fb, 0, none⟩ = some (.int .i64 p)) (hV0 : w0.heap.size ≤ V) (b : Nat) (a : Option Addr) (k : Nat) (w : World) (hb : Below w0.heap.size w0 w) (hE : EvAt w V fb pg k fuel) (hf : fuel ≤ 1000000) (hk : k < fuel) (at' n : Nat) (nm : List UInt8) (av : Option Addr) (c nk : Nat) (hn : n ≤ 9223372036854775807) (hbk : w0.heap[b]? = some (.cells #[.int .i64 0, .string (bs nm), .int .i64 (at' : Int), .int .i64 (n : Int), .slice av nk c] 211 (0, 0))) (r : ER Int) (hr : r = .val ((n : Int) % (p : Int)) (k + 1)) :
    Calls Tryz.prog 59 #[.pointer (some ⟨V, 0, none⟩), .pointer (some ⟨b, 0, none⟩), .pointer a] w (EvP (Value.int .i64) V fb pg fuel w r) := by
  have HL := hid (look_any V fb pg k fuel w hE hf (by omega))
  rw [if_neg (by omega)] at HL
  have p0 : w0.cell? ⟨b, 0, none⟩ = some (.int .i64 0) := by simp [World.cell?, hbk]
  have p3 : w0.cell? ⟨b, 3, none⟩ = some (.int .i64 (n : Int)) := by simp [World.cell?, hbk]
  have HW : Hid (∀ w1, Fr V w w1 → w1.cell? ⟨b, 0, none⟩ = some (.int .i64 0) ∧ w1.cell? ⟨b, 3, none⟩ = some (.int .i64 (n : Int)) ∧ w1.cell? ⟨fb, 0, none⟩ = some (.int .i64 p)) := fun w1 hf => by
    have hb1 := hb.trans (hf.1.mono hV0)
    exact ⟨(hb1.cell (p := ⟨b, 0, none⟩) (World.block_lt_of_cell? _ _ p0)).trans p0, (hb1.cell (p := ⟨b, 3, none⟩) (World.block_lt_of_cell? _ _ p3)).trans p3, (hb1.cell (p := ⟨fb, 0, none⟩) (World.block_lt_of_cell? _ _ hp)).trans hp⟩
  subst hr
  clear hb hE hf hk hbk p0 p3 hp
  go_enter Tryz.func59, Tryz.ntmps59
  go_wp2_with fail
  refine HL.out.mono ?_
  rintro e w1 ⟨hf1, rfl, hE1⟩
  obtain ⟨q0, q3, qf⟩ := HW.out w1 hf1
  have v0 : w1.cell? ⟨V, 0, none⟩ = some (.pointer (some ⟨fb, 0, none⟩)) := by simp [World.cell?, show w1.heap[V]? = _ from hE1]
  have HF1 := hid hf1
  have HE1 := hid hE1
  clear hf1 hE1 HL HW
  go_wp2_with fail
  refine wp_region_held_drew (S := (fun W => W.cell? ⟨V, 0, none⟩ = some (.pointer (some ⟨fb, 0, none⟩)) ∧ W.cell? ⟨b, 3, none⟩ = some (.int .i64 (n : Int)) ∧ W.cell? ⟨fb, 0, none⟩ = some (.int .i64 p))) (by kernel_rfl) ⟨v0, q3, qf⟩ (fun hHeld => ?_)
  refine wpAnyH_takeS (i := 0) (v := .pointer (some ⟨V, 0, none⟩)) rfl (by kernel_rfl) (by kernel_rfl) (by kernel_rfl) (fun _ _ _ h => h) (by rfl) (fun W hC => by go_simp) hHeld ?_
  simp only [Act.put, List.setIfInBounds_toArray, List.set_cons_zero, List.set_cons_succ]
  refine wpAnyH_takeS (i := 1) (v := .pointer (some ⟨V, 0, none⟩)) rfl (by kernel_rfl) (by kernel_rfl) (by kernel_rfl) (fun _ _ _ h => h) (by rfl) (fun W hC => by go_simp) hHeld ?_
  simp only [Act.put, List.setIfInBounds_toArray, List.set_cons_zero, List.set_cons_succ]
  refine wpAnyH_takeS (i := 2) (v := .pointer (some ⟨V, 0, none⟩)) rfl (by kernel_rfl) (by kernel_rfl) (by kernel_rfl) (fun _ _ _ h => h) (by rfl) (fun W hC => by go_simp) hHeld ?_
  simp only [Act.put, List.setIfInBounds_toArray, List.set_cons_zero, List.set_cons_succ]
  refine wpAnyH_takeS (i := 3) (v := .pointer (some ⟨fb, 0, none⟩)) rfl (by kernel_rfl) (by kernel_rfl) (by kernel_rfl) (fun _ _ _ h => h) (by rfl) (fun W hC => by (obtain ⟨y0, y1, y2⟩ := hC); go_simp) hHeld ?_
  simp only [Act.put, List.setIfInBounds_toArray, List.set_cons_zero, List.set_cons_succ]
  refine wpAnyH_takeS (i := 4) (v := .pointer (some ⟨b, 0, none⟩)) rfl (by kernel_rfl) (by kernel_rfl) (by kernel_rfl) (fun _ _ _ h => h) (by rfl) (fun W hC => by go_simp) hHeld ?_
  simp only [Act.put, List.setIfInBounds_toArray, List.set_cons_zero, List.set_cons_succ]
  refine wpAnyH_takeS (i := 5) (v := .pointer (some ⟨b, 0, none⟩)) rfl (by kernel_rfl) (by kernel_rfl) (by kernel_rfl) (fun _ _ _ h => h) (by rfl) (fun W hC => by go_simp) hHeld ?_
  simp only [Act.put, List.setIfInBounds_toArray, List.set_cons_zero, List.set_cons_succ]
  refine wpAnyH_takeS (i := 6) (v := .pointer (some ⟨b, 3, none⟩)) rfl (by kernel_rfl) (by kernel_rfl) (by kernel_rfl) (fun _ _ _ h => h) (by rfl) (fun W hC => by go_simp) hHeld ?_
  simp only [Act.put, List.setIfInBounds_toArray, List.set_cons_zero, List.set_cons_succ]
  refine wpAnyH_takeS (i := 7) (v := .int .i64 (n : Int)) rfl (by kernel_rfl) (by kernel_rfl) (by kernel_rfl) (fun _ _ _ h => h) (by rfl) (fun W hC => by (obtain ⟨y0, y1, y2⟩ := hC); go_simp) hHeld ?_
  simp only [Act.put, List.setIfInBounds_toArray, List.set_cons_zero, List.set_cons_succ]
  refine wpAnyH_ready (rs := [8]) (by kernel_rfl) (by simp) ?_
  refine AllReadyH.consS rfl (fun K hK => ?_) AllReadyH.nil
  go_simp
  refine (of_any p fb (n : Int) w1.drew h3 h4 hHeld.2.2 (by omega) (by omega)).mono ?_
  rintro e w2 ⟨rfl, rfl⟩
  refine hK.out _ _ hHeld (fun hHeld => ?_)
  clear hK K
  refine wpAnyH_ready (rs := [9]) (by kernel_rfl) (by simp) ?_
  refine AllReadyH.consS rfl (fun K hK => ?_) AllReadyH.nil
  go_simp
  refine hK.out _ _ hHeld (fun hHeld => ?_)
  clear hK K
  refine wpAnyH_done (by kernel_rfl) ?_ _
  go_wp2_with fail
  go_ret
  exact ⟨HF1.out.drew, rfl, HE1.out⟩

end Go.Proofs.YtlgcmeachjjmgajGreatDoor
