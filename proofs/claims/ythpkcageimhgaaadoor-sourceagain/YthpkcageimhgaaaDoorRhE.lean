/- Programs as text, plainly: an expression has no more parts than its text has bytes. -/
import Derived.Test.YthpkcageimhgaaaDoorSsE
namespace Go.Proofs.YthpkcageimhgaaaDoor

/-- what is read is no greater than what was read -/
def Res.Sz {α : Type} (r : Res α) (m : α → Nat) (c a : Nat) : Prop := ∀ x j, r = .ok x j → m x + a ≤ j + c
theorem Res.Sz.bind {α β : Type} {r : Res α} {f : α → Nat → Res β} {m : β → Nat} {c a : Nat} (h : ∀ x k, r = .ok x k → (f x k).Sz m c a) : (r.bind f).Sz m c a := by
  intro y j hy
  cases r with
  | out => cases hy
  | bad e b => cases hy
  | ok x k => exact h x k rfl y j hy
theorem Res.Sz.ok {α : Type} {x : α} {m : α → Nat} {c a j : Nat} (h : m x + a ≤ j + c) : (Res.ok x j).Sz m c a := by
  intro y k hy
  injection hy with h1 h2
  subst h1 h2
  exact h
theorem Res.Sz.bad {α : Type} {m : α → Nat} {c a e b : Nat} : (Res.bad e b : Res α).Sz m c a := fun _ _ h => (nomatch h)
theorem Res.Sz.out {α : Type} {m : α → Nat} {c a : Nat} : (Res.out : Res α).Sz m c a := fun _ _ h => (nomatch h)
theorem pTake_gt {L : List UInt8} {k a j : Nat} {t : Tok} (h : pTake L k a = .ok t j) (ha : a ≤ L.length) (hk : k ≠ 1) : a + 1 ≤ j ∧ j ≤ L.length := by
  have := pTake_fx L k a ha hk
  rw [h] at this
  exact this
theorem pEnter_gt {L : List UInt8} {k a l j : Nat} {u : Unit} (h : pEnter L k a l = .ok u j) (ha : a ≤ L.length) (hk : k ≠ 1) : a + 1 ≤ j ∧ j ≤ L.length := by
  have := pEnter_fx L k a l ha hk
  rw [h] at this
  exact this
theorem pName_gt {L : List UInt8} {a j : Nat} {x : List UInt8 × Nat} (h : pName L a = .ok x j) (ha : a ≤ L.length) : a + 1 ≤ j ∧ j ≤ L.length := by
  have := pName_fx L a ha
  rw [h] at this
  exact this
theorem nx_gt {L : List UInt8} {a k : Nat} (ha : a ≤ L.length) (hk : (tok L a).kind = k) (h1 : k ≠ 1) : a + 1 ≤ (tok L a).nx ∧ (tok L a).nx ≤ L.length := by
  have := tok_at L a ha
  have h2 := this.2.2.2.1 (by omega)
  omega
theorem Res.Fx.gt {α : Type} {N a : Nat} {r : Res α} (h : r.Fx N a) {x : α} {j : Nat} (e : r = .ok x j) : a ≤ j ∧ j ≤ N := by
  rw [e] at h
  exact h
theorem tszs_app : ∀ (xs ys : List Tr), tszs (xs ++ ys) = tszs xs + tszs ys
  | [], ys => by simp [tszs]
  | x :: r, ys => by rw [List.cons_append, tszs, tszs, tszs_app r ys]; omega
theorem p_sz (L : List UInt8) : ∀ (f : Nat),
    (∀ a l, a ≤ L.length → (pExpr L f a l).Sz tsz 0 a) ∧
    (∀ a l, a ≤ L.length → (pSum L f a l).Sz tsz 0 a) ∧
    (∀ x a l, a ≤ L.length → (pSumL L f x a l).Sz tsz (tsz x) a) ∧
    (∀ a l, a ≤ L.length → (pProd L f a l).Sz tsz 0 a) ∧
    (∀ x a l, a ≤ L.length → (pProdL L f x a l).Sz tsz (tsz x) a) ∧
    (∀ a l, a ≤ L.length → (pPart L f a l).Sz tsz 0 a) ∧
    (∀ a l, a ≤ L.length → (pList L f a l).Sz tszs 0 a) ∧
    (∀ xs a l, a ≤ L.length → (pArgs L f xs a l).Sz tszs (tszs xs) a)
  | 0 => by
    refine ⟨?_, ?_, ?_, ?_, ?_, ?_, ?_, ?_⟩
    all_goals (intros; first | (rw [pExpr]; exact Res.Sz.out) | (rw [pSum]; exact Res.Sz.out) | (rw [pSumL]; exact Res.Sz.out) | (rw [pProd]; exact Res.Sz.out) | (rw [pProdL]; exact Res.Sz.out) | (rw [pPart]; exact Res.Sz.out) | (rw [pList]; exact Res.Sz.out) | (rw [pArgs]; exact Res.Sz.out))
  | f + 1 => by
    obtain ⟨iE, iS, iSL, iP, iPL, iX, iLs, iA⟩ := p_sz L f
    obtain ⟨xE, xS, xSL, xP, xPL, xX, xLs, xA⟩ := p_fx L f
    refine ⟨?_, ?_, ?_, ?_, ?_, ?_, ?_, ?_⟩
    · intro a l ha
      rw [pExpr]
      split
      · refine Res.Sz.bind fun _ a1 h1 => ?_
        have g1 := pEnter_gt h1 ha (by decide)
        refine Res.Sz.bind fun nm a2 h2 => ?_
        have g2 := pName_gt h2 g1.2
        refine Res.Sz.bind fun _ a3 h3 => ?_
        have g3 := pTake_gt h3 g2.2 (by decide)
        refine Res.Sz.bind fun x a4 h4 => ?_
        have g4 := (xE a3 (l + 1) g3.2).gt h4
        have s4 := iE a3 (l + 1) g3.2 x a4 h4
        refine Res.Sz.bind fun _ a5 h5 => ?_
        have g5 := pTake_gt h5 g4.2 (by decide)
        refine Res.Sz.bind fun y a6 h6 => ?_
        have s6 := iE a5 (l + 1) g5.2 y a6 h6
        refine Res.Sz.ok ?_
        rw [tsz, tszs, tszs, tszs]
        omega
      · split
        · refine Res.Sz.bind fun _ a1 h1 => ?_
          have g1 := pEnter_gt h1 ha (by decide)
          refine Res.Sz.bind fun x a2 h2 => ?_
          have g2 := (xS a1 (l + 1) g1.2).gt h2
          have s2 := iS a1 (l + 1) g1.2 x a2 h2
          refine Res.Sz.bind fun _ a3 h3 => ?_
          have g3 := pTake_gt h3 g2.2 (by decide)
          refine Res.Sz.bind fun y a4 h4 => ?_
          have g4 := (xS a3 (l + 1) g3.2).gt h4
          have s4 := iS a3 (l + 1) g3.2 y a4 h4
          refine Res.Sz.bind fun _ a5 h5 => ?_
          have g5 := pTake_gt h5 g4.2 (by decide)
          refine Res.Sz.bind fun z a6 h6 => ?_
          have s6 := iE a5 (l + 1) g5.2 z a6 h6
          refine Res.Sz.ok ?_
          rw [tsz, tszs, tszs, tszs, tszs]
          omega
        · split
          · refine Res.Sz.bind fun _ a1 h1 => ?_
            have g1 := pEnter_gt h1 ha (by decide)
            refine Res.Sz.bind fun x a2 h2 => ?_
            have g2 := (xE a1 (l + 1) g1.2).gt h2
            have s2 := iE a1 (l + 1) g1.2 x a2 h2
            refine Res.Sz.bind fun _ a3 h3 => ?_
            have g3 := pTake_gt h3 g2.2 (by decide)
            refine Res.Sz.bind fun y a4 h4 => ?_
            have g4 := (xE a3 (l + 1) g3.2).gt h4
            have s4 := iE a3 (l + 1) g3.2 y a4 h4
            refine Res.Sz.bind fun _ a5 h5 => ?_
            have g5 := pTake_gt h5 g4.2 (by decide)
            refine Res.Sz.bind fun z a6 h6 => ?_
            have s6 := iE a5 (l + 1) g5.2 z a6 h6
            refine Res.Sz.ok ?_
            rw [tsz, tszs, tszs, tszs, tszs]
            omega
          · refine Res.Sz.bind fun x a1 h1 => ?_
            have g1 := (xS a l ha).gt h1
            have s1 := iS a l ha x a1 h1
            split
            · rename_i hk
              have gn := nx_gt g1.2 hk (by decide)
              refine Res.Sz.bind fun y a2 h2 => ?_
              have s2 := iS _ l gn.2 y a2 h2
              refine Res.Sz.ok ?_
              rw [tsz, tszs, tszs, tszs]
              omega
            · exact Res.Sz.ok (by omega)
    · intro a l ha
      rw [pSum]
      refine Res.Sz.bind fun x a1 h1 => ?_
      have g1 := (xP a l ha).gt h1
      have s1 := iP a l ha x a1 h1
      intro y j hy
      have := iSL x a1 l g1.2 y j hy
      omega
    · intro x a l ha
      rw [pSumL]
      split
      · rename_i hk
        have gn := nx_gt ha hk (by decide)
        refine Res.Sz.bind fun y a2 h2 => ?_
        have g2 := (xP _ l gn.2).gt h2
        have s2 := iP _ l gn.2 y a2 h2
        intro z j hz
        have := iSL _ a2 l g2.2 z j hz
        rw [tsz, tszs, tszs, tszs] at this
        omega
      · split
        · rename_i hk
          have gn := nx_gt ha hk (by decide)
          refine Res.Sz.bind fun y a2 h2 => ?_
          have g2 := (xP _ l gn.2).gt h2
          have s2 := iP _ l gn.2 y a2 h2
          intro z j hz
          have := iSL _ a2 l g2.2 z j hz
          rw [tsz, tszs, tszs, tszs] at this
          omega
        · exact Res.Sz.ok (by omega)
    · intro a l ha
      rw [pProd]
      refine Res.Sz.bind fun x a1 h1 => ?_
      have g1 := (xX a l ha).gt h1
      have s1 := iX a l ha x a1 h1
      intro y j hy
      have := iPL x a1 l g1.2 y j hy
      omega
    · intro x a l ha
      rw [pProdL]
      split
      · rename_i hk
        have gn := nx_gt ha hk (by decide)
        refine Res.Sz.bind fun y a2 h2 => ?_
        have g2 := (xX _ l gn.2).gt h2
        have s2 := iX _ l gn.2 y a2 h2
        intro z j hz
        have := iPL _ a2 l g2.2 z j hz
        rw [tsz, tszs, tszs, tszs] at this
        omega
      · split
        · rename_i hk
          have gn := nx_gt ha hk (by decide)
          refine Res.Sz.bind fun y a2 h2 => ?_
          have g2 := (xX _ l gn.2).gt h2
          have s2 := iX _ l gn.2 y a2 h2
          intro z j hz
          have := iPL _ a2 l g2.2 z j hz
          rw [tsz, tszs, tszs, tszs] at this
          omega
        · exact Res.Sz.ok (by omega)
    · intro a l ha
      rw [pPart]
      split
      · refine Res.Sz.bind fun nm a1 h1 => ?_
        have g1 := pName_gt h1 ha
        split
        · refine Res.Sz.bind fun xs a2 h2 => ?_
          have s2 := iLs a1 l g1.2 xs a2 h2
          refine Res.Sz.ok ?_
          rw [tsz]
          omega
        · refine Res.Sz.ok ?_
          rw [tsz, tszs]
          omega
      · split
        · refine Res.Sz.bind fun _ a1 h1 => ?_
          have g1 := pEnter_gt h1 ha (by decide)
          refine Res.Sz.bind fun x a2 h2 => ?_
          have g2 := (xE a1 (l + 1) g1.2).gt h2
          have s2 := iE a1 (l + 1) g1.2 x a2 h2
          refine Res.Sz.bind fun _ a3 h3 => ?_
          have g3 := pTake_gt h3 g2.2 (by decide)
          exact Res.Sz.ok (by omega)
        · split
          · refine Res.Sz.bind fun _ a1 h1 => ?_
            have g1 := pEnter_gt h1 ha (by decide)
            refine Res.Sz.bind fun x a2 h2 => ?_
            have s2 := iX a1 (l + 1) g1.2 x a2 h2
            refine Res.Sz.ok ?_
            rw [tsz, tszs, tszs]
            omega
          · unfold pNum
            refine Res.Sz.bind fun t a1 h1 => ?_
            have g1 := pTake_gt h1 ha (by decide)
            split
            · exact Res.Sz.bad
            · refine Res.Sz.ok ?_
              rw [tsz, tszs]
              omega
    · intro a l ha
      rw [pList]
      refine Res.Sz.bind fun _ a1 h1 => ?_
      have g1 := pEnter_gt h1 ha (by decide)
      refine Res.Sz.bind fun xs a3 h3 => ?_
      have hk : tszs xs + a1 ≤ a3 ∧ a3 ≤ L.length := by
        split at h3
        · injection h3 with h3 h4
          subst h3 h4
          rw [tszs]
          omega
        · cases hx : pExpr L f a1 (l + 1) with
          | out => rw [hx] at h3; cases h3
          | bad e b => rw [hx] at h3; cases h3
          | ok x a2 =>
            rw [hx] at h3
            have h3 : pArgs L f [x] a2 (l + 1) = .ok xs a3 := h3
            have g2 := (xE a1 (l + 1) g1.2).gt hx
            have s2 := iE a1 (l + 1) g1.2 x a2 hx
            have g3 := (xA [x] a2 (l + 1) g2.2).gt h3
            have s3 := iA [x] a2 (l + 1) g2.2 xs a3 h3
            rw [tszs, tszs] at s3
            omega
      refine Res.Sz.bind fun _ a4 h4 => ?_
      have g4 := pTake_gt h4 hk.2 (by decide)
      exact Res.Sz.ok (by omega)
    · intro xs a l ha
      rw [pArgs]
      split
      · rename_i hk
        have gn := nx_gt ha hk (by decide)
        refine Res.Sz.bind fun x a2 h2 => ?_
        have g2 := (xE _ l gn.2).gt h2
        have s2 := iE _ l gn.2 x a2 h2
        intro ys j hy
        have := iA (xs ++ [x]) a2 l g2.2 ys j hy
        rw [tszs_app, tszs, tszs] at this
        omega
      · exact Res.Sz.ok (by omega)
/-- how many parts a function has, with its names -/
def fsz (g : FnT) : Nat := g.more.length + tsz g.body
theorem pNames_sz (L : List UInt8) : ∀ (f : Nat) (xs : List (List UInt8 × Nat)) (a : Nat), a ≤ L.length → (pNames L f xs a).Sz List.length xs.length a
  | 0, xs, a, _ => by rw [pNames]; exact Res.Sz.out
  | f + 1, xs, a, ha => by
    rw [pNames]
    split
    · rename_i hk
      have gn := nx_gt ha hk (by decide)
      refine Res.Sz.bind fun x a2 h2 => ?_
      have g2 := pName_gt h2 gn.2
      intro ys j hy
      have := pNames_sz L f (xs ++ [x]) a2 g2.2 ys j hy
      rw [List.length_append] at this
      simp at this
      omega
    · exact Res.Sz.ok (by omega)
theorem pBrack_sz (L : List UInt8) (f a : Nat) (ha : a ≤ L.length) : (pBrack L f a).Sz List.length 0 a := by
  unfold pBrack
  refine Res.Sz.bind fun _ a1 h1 => ?_
  have g1 := pTake_gt h1 ha (by decide)
  refine Res.Sz.bind fun xs a3 h3 => ?_
  have hk : xs.length + a1 ≤ a3 ∧ a3 ≤ L.length := by
    split at h3
    · injection h3 with h3 h4
      subst h3 h4
      simp
      omega
    · cases hx : pName L a1 with
      | out => rw [hx] at h3; cases h3
      | bad e b => rw [hx] at h3; cases h3
      | ok x a2 =>
        rw [hx] at h3
        have h3 : pNames L f [x] a2 = .ok xs a3 := h3
        have g2 := pName_gt hx g1.2
        have g3 := (pNames_fx L f [x] a2 g2.2).gt h3
        have s3 := pNames_sz L f [x] a2 g2.2 xs a3 h3
        simp at s3
        omega
  refine Res.Sz.bind fun _ a4 h4 => ?_
  have g4 := pTake_gt h4 hk.2 (by decide)
  exact Res.Sz.ok (by omega)
theorem pFun_sz (L : List UInt8) (f a : Nat) (ha : a ≤ L.length) : (pFun L f a).Sz fsz 0 a := by
  unfold pFun
  refine Res.Sz.bind fun _ a1 h1 => ?_
  have g1 := pTake_gt h1 ha (by decide)
  refine Res.Sz.bind fun nm a2 h2 => ?_
  have g2 := pName_gt h2 g1.2
  refine Res.Sz.bind fun more a3 h3 => ?_
  have g3 := (pBrack_fx L f a2 g2.2).gt h3
  have s3 := pBrack_sz L f a2 g2.2 more a3 h3
  refine Res.Sz.bind fun _ a4 h4 => ?_
  have g4 := pTake_gt h4 g3.2 (by decide)
  refine Res.Sz.bind fun x a5 h5 => ?_
  have s5 := (p_sz L f).1 a4 0 g4.2 x a5 h5
  refine Res.Sz.ok ?_
  unfold fsz
  simp only
  omega
/-- how many parts functions have, with their names -/
def pwgt (fs : List FnT) : Nat := (fs.map fsz).sum
theorem pProg_sz (L : List UInt8) : ∀ (f : Nat) (gs : List FnT) (a : Nat), a ≤ L.length → (pProg L f gs a).Sz pwgt (pwgt gs) a
  | 0, gs, a, _ => by rw [pProg]; exact Res.Sz.out
  | f + 1, gs, a, ha => by
    rw [pProg]
    split
    · exact Res.Sz.ok (by omega)
    · refine Res.Sz.bind fun g a2 h2 => ?_
      have g2 := (pFun_fx L f a ha).gt h2
      have s2 := pFun_sz L f a ha g a2 h2
      intro ys j hy
      have := pProg_sz L f (gs ++ [g]) a2 g2.2 ys j hy
      unfold pwgt at this ⊢
      rw [List.map_append, List.sum_append] at this
      simp at this
      omega
theorem pwgt_mem {fs : List FnT} {g : FnT} (h : g ∈ fs) : fsz g ≤ pwgt fs := by
  induction fs with
  | nil => cases h
  | cons x r ih =>
    unfold pwgt at ih ⊢
    rw [List.map_cons, List.sum_cons]
    rcases List.mem_cons.1 h with rfl | h
    · omega
    · have := ih h
      omega

end Go.Proofs.YthpkcageimhgaaaDoor
