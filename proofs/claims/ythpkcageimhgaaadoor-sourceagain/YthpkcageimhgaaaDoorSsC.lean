/- Programs as text, plainly: what is read is well formed. -/
import Derived.Test.YthpkcageimhgaaaDoorSsB
namespace Go.Proofs.YthpkcageimhgaaaDoor

/-- a name that may stand in a program -/
def NmOk (nm : List UInt8) : Prop := nm ≠ [] ∧ nm.length ≤ 16 ∧ wkd nm = 2 ∧ nm.all inWd = true
/-- how a part may look -/
def shp (k : Nat) (nm : List UInt8) (n m : Nat) : Prop :=
  (k = 0 ∧ nm = [] ∧ n ≤ 9223372036854775807 ∧ m = 0) ∨ (k = 1 ∧ NmOk nm ∧ n = 0 ∧ m = 0) ∨ (k = 2 ∧ NmOk nm ∧ n = 0 ∧ m ≤ 4000) ∨ (k = 3 ∧ nm = [] ∧ n = 0 ∧ m = 1) ∨ (4 ≤ k ∧ k ≤ 8 ∧ nm = [] ∧ n = 0 ∧ m = 2) ∨ (k = 9 ∧ NmOk nm ∧ n = 0 ∧ m = 2) ∨ (10 ≤ k ∧ k ≤ 11 ∧ nm = [] ∧ n = 0 ∧ m = 3)
mutual
/-- a tree that is well formed -/
def TW : Tr → Prop
  | .node k nm _ n kids => shp k nm n kids.length ∧ TWs kids
def TWs : List Tr → Prop
  | [] => True
  | t :: r => TW t ∧ TWs r
end
theorem TWs.app : ∀ {xs ys : List Tr}, TWs xs → TWs ys → TWs (xs ++ ys)
  | [], _, _, h => h
  | _ :: _, _, hx, hy => ⟨hx.1, TWs.app hx.2 hy⟩
mutual
theorem TW.tok : ∀ (t : Tr), TW t → TOk t
  | .node k nm at' n kids, h => by
    obtain ⟨h1, h2⟩ := h
    refine ⟨?_, ?_, TWs.toks kids h2⟩
    · rcases h1 with h | h | h | h | h | h | h
      · rw [h.2.1]; simp
      · have := h.2.1.2.1; omega
      · have := h.2.1.2.1; omega
      · rw [h.2.1]; simp
      · rw [h.2.2.1]; simp
      · have := h.2.1.2.1; omega
      · rw [h.2.2.1]; simp
    · rcases h1 with h | h | h | h | h | h | h <;> omega
theorem TWs.toks : ∀ (ts : List Tr), TWs ts → TOks ts
  | [], _ => trivial
  | t :: r, h => ⟨TW.tok t h.1, TWs.toks r h.2⟩
end
/-- behind a place and so, if it is a result -/
def Res.Al {α : Type} (N a : Nat) (P : α → Nat → Prop) : Res α → Prop
  | .ok x j => (a ≤ j ∧ j ≤ N) ∧ P x j
  | .bad _ _ => True
  | .out => True
theorem Res.Fx.al {α : Type} {N a : Nat} {r : Res α} (h : r.Fx N a) : r.Al N a (fun _ _ => True) := by
  cases r with
  | ok x j => exact ⟨h, trivial⟩
  | bad e at' => trivial
  | out => trivial
theorem Res.Al.bind {α β : Type} {N a b : Nat} {P : α → Nat → Prop} {Q : β → Nat → Prop} {r : Res α} {f : α → Nat → Res β} (h : r.Al N a P) (hf : ∀ x j, P x j → a ≤ j → j ≤ N → (f x j).Al N b Q) : (r.bind f).Al N b Q := by
  cases r with
  | ok x j => exact hf x j h.2 h.1.1 h.1.2
  | bad e at' => trivial
  | out => trivial
theorem Res.Al.mono {α : Type} {N a b : Nat} {P : α → Nat → Prop} {r : Res α} (h : r.Al N a P) (hb : b ≤ a) : r.Al N b P := by
  cases r with
  | ok x j => exact ⟨⟨Nat.le_trans hb h.1.1, h.1.2⟩, h.2⟩
  | bad e at' => trivial
  | out => trivial
theorem tok_two (L : List UInt8) (a : Nat) (h : (tok L a).kind = 2) : (tok L a).text ≠ [] ∧ wkd (tok L a).text = 2 ∧ (tok L a).text.all inWd = true := by
  unfold tok at h ⊢
  generalize blank (L.drop a) = r at h ⊢
  unfold tokR at h ⊢
  by_cases hr : r = []
  · rw [if_pos hr] at h; cases h
  · rw [if_neg hr] at h ⊢
    by_cases ht : r.takeWhile inWd ≠ []
    · rw [if_pos ht] at h ⊢
      exact ⟨ht, h, List.all_takeWhile⟩
    · rw [if_neg ht] at h
      have := (sgn_two r).1.2.1
      simp at h
      omega
theorem pTake_al (L : List UInt8) (k a : Nat) (h : a ≤ L.length) (hk : k ≠ 1) : (pTake L k a).Al L.length (a + 1) (fun _ _ => True) := (pTake_fx L k a h hk).al
theorem pEnter_al (L : List UInt8) (k a l : Nat) (h : a ≤ L.length) (hk : k ≠ 1) : (pEnter L k a l).Al L.length (a + 1) (fun _ _ => True) := (pEnter_fx L k a l h hk).al
theorem pName_al (L : List UInt8) (a : Nat) (h : a ≤ L.length) : (pName L a).Al L.length (a + 1) (fun x _ => NmOk x.1) := by
  have h1 := pName_fx L a h
  revert h1
  unfold pName pTake
  by_cases hk : (tok L a).kind = 2
  · rw [if_pos hk]
    have h2 := tok_two L a hk
    show (Res.Fx _ _ (if _ then _ else _)) → Res.Al _ _ _ (if _ then _ else _)
    split
    · exact fun _ => trivial
    · exact fun h1 => ⟨h1, h2.1, by show (tok L a).text.length ≤ 16; omega, h2.2.1, h2.2.2⟩
  · rw [if_neg hk]
    exact fun _ => trivial
theorem pNum_al (L : List UInt8) (a : Nat) (h : a ≤ L.length) : (pNum L a).Al L.length (a + 1) (fun x _ => TW x) := by
  have h1 := pNum_fx L a h
  revert h1
  unfold pNum pTake
  by_cases hk : (tok L a).kind = 3
  · rw [if_pos hk]
    show (Res.Fx _ _ (if _ then _ else _)) → Res.Al _ _ _ (if _ then _ else _)
    split
    · exact fun _ => trivial
    · exact fun h1 => ⟨h1, .inl ⟨rfl, rfl, by omega, rfl⟩, trivial⟩
  · rw [if_neg hk]
    exact fun _ => trivial

/-- what is read is well formed -/
theorem p_al (L : List UInt8) (hL : L.length ≤ 4000) : ∀ (f : Nat),
    (∀ a l, a ≤ L.length → (pExpr L f a l).Al L.length (a + 1) (fun x _ => TW x)) ∧
    (∀ a l, a ≤ L.length → (pSum L f a l).Al L.length (a + 1) (fun x _ => TW x)) ∧
    (∀ x a l, TW x → a ≤ L.length → (pSumL L f x a l).Al L.length a (fun x _ => TW x)) ∧
    (∀ a l, a ≤ L.length → (pProd L f a l).Al L.length (a + 1) (fun x _ => TW x)) ∧
    (∀ x a l, TW x → a ≤ L.length → (pProdL L f x a l).Al L.length a (fun x _ => TW x)) ∧
    (∀ a l, a ≤ L.length → (pPart L f a l).Al L.length (a + 1) (fun x _ => TW x)) ∧
    (∀ a l, a ≤ L.length → (pList L f a l).Al L.length (a + 1) (fun xs j => TWs xs ∧ xs.length ≤ j)) ∧
    (∀ xs a l, TWs xs → xs.length ≤ a → a ≤ L.length → (pArgs L f xs a l).Al L.length a (fun xs j => TWs xs ∧ xs.length ≤ j))
  | 0 => by
    refine ⟨?_, ?_, ?_, ?_, ?_, ?_, ?_, ?_⟩
    all_goals (intros; first | (rw [pExpr]; trivial) | (rw [pSum]; trivial) | (rw [pSumL]; trivial) | (rw [pProd]; trivial) | (rw [pProdL]; trivial) | (rw [pPart]; trivial) | (rw [pList]; trivial) | (rw [pArgs]; trivial))
  | f + 1 => by
    obtain ⟨iE, iS, iSL, iP, iPL, iX, iLs, iA⟩ := p_al L hL f
    have two : ∀ k (x y : Tr), 4 ≤ k → k ≤ 8 → TW x → TW y → TW (.node k [] 0 0 [x, y]) := fun k x y h1 h2 hx hy => ⟨.inr (.inr (.inr (.inr (.inl ⟨h1, h2, rfl, rfl, rfl⟩)))), hx, hy, trivial⟩
    have three : ∀ k (x y z : Tr), 10 ≤ k → k ≤ 11 → TW x → TW y → TW z → TW (.node k [] 0 0 [x, y, z]) := fun k x y z h1 h2 hx hy hz => ⟨.inr (.inr (.inr (.inr (.inr (.inr ⟨h1, h2, rfl, rfl, rfl⟩))))), hx, hy, hz, trivial⟩
    refine ⟨?_, ?_, ?_, ?_, ?_, ?_, ?_, ?_⟩
    · intro a l ha
      rw [pExpr]
      split
      · refine (pEnter_al L 5 a l ha (by decide)).bind fun _ a1 _ h1 m1 => ?_
        refine (pName_al L a1 m1).bind fun nm a2 hnm h2 m2 => ?_
        refine (pTake_al L 14 a2 m2 (by decide)).bind fun _ a3 _ h3 m3 => ?_
        refine (iE a3 _ m3).bind fun x a4 hx h4 m4 => ?_
        refine (pTake_al L 13 a4 m4 (by decide)).bind fun _ a5 _ h5 m5 => ?_
        refine (iE a5 _ m5).bind fun y a6 hy h6 m6 => ?_
        exact ⟨⟨by omega, m6⟩, .inr (.inr (.inr (.inr (.inr (.inl ⟨rfl, hnm, rfl, rfl⟩))))), hx, hy, trivial⟩
      · split
        · refine (pEnter_al L 6 a l ha (by decide)).bind fun _ a1 _ h1 m1 => ?_
          refine (iS a1 _ m1).bind fun x a2 hx h2 m2 => ?_
          refine (pTake_al L 15 a2 m2 (by decide)).bind fun _ a3 _ h3 m3 => ?_
          refine (iS a3 _ m3).bind fun y a4 hy h4 m4 => ?_
          refine (pTake_al L 13 a4 m4 (by decide)).bind fun _ a5 _ h5 m5 => ?_
          refine (iE a5 _ m5).bind fun z a6 hz h6 m6 => ?_
          exact ⟨⟨by omega, m6⟩, three _ _ _ _ (by decide) (by decide) hx hy hz⟩
        · split
          · refine (pEnter_al L 7 a l ha (by decide)).bind fun _ a1 _ h1 m1 => ?_
            refine (iE a1 _ m1).bind fun x a2 hx h2 m2 => ?_
            refine (pTake_al L 8 a2 m2 (by decide)).bind fun _ a3 _ h3 m3 => ?_
            refine (iE a3 _ m3).bind fun y a4 hy h4 m4 => ?_
            refine (pTake_al L 9 a4 m4 (by decide)).bind fun _ a5 _ h5 m5 => ?_
            refine (iE a5 _ m5).bind fun z a6 hz h6 m6 => ?_
            exact ⟨⟨by omega, m6⟩, three _ _ _ _ (by decide) (by decide) hx hy hz⟩
          · refine (iS a l ha).bind fun x a1 hx h1 m1 => ?_
            split
            · rename_i hk
              obtain ⟨h2, m2⟩ := nx_fw L a1 15 m1 hk (by decide)
              refine (iS _ l m2).bind fun y a3 hy h3 m3 => ?_
              exact ⟨⟨by omega, m3⟩, two _ _ _ (by decide) (by decide) hx hy⟩
            · exact ⟨⟨h1, m1⟩, hx⟩
    · intro a l ha
      rw [pSum]
      refine (iP a l ha).bind fun x a1 hx h1 m1 => ?_
      exact (iSL x a1 l hx m1).mono h1
    · intro x a l hx ha
      rw [pSumL]
      split
      · rename_i hk
        obtain ⟨h2, m2⟩ := nx_fw L a 16 ha hk (by decide)
        refine (iP _ l m2).bind fun y a3 hy h3 m3 => ?_
        exact (iSL _ a3 l (two _ _ _ (by decide) (by decide) hx hy) m3).mono (by omega)
      · split
        · rename_i hk
          obtain ⟨h2, m2⟩ := nx_fw L a 17 ha hk (by decide)
          refine (iP _ l m2).bind fun y a3 hy h3 m3 => ?_
          exact (iSL _ a3 l (two _ _ _ (by decide) (by decide) hx hy) m3).mono (by omega)
        · exact ⟨⟨Nat.le_refl _, ha⟩, hx⟩
    · intro a l ha
      rw [pProd]
      refine (iX a l ha).bind fun x a1 hx h1 m1 => ?_
      exact (iPL x a1 l hx m1).mono h1
    · intro x a l hx ha
      rw [pProdL]
      split
      · rename_i hk
        obtain ⟨h2, m2⟩ := nx_fw L a 18 ha hk (by decide)
        refine (iX _ l m2).bind fun y a3 hy h3 m3 => ?_
        exact (iPL _ a3 l (two _ _ _ (by decide) (by decide) hx hy) m3).mono (by omega)
      · split
        · rename_i hk
          obtain ⟨h2, m2⟩ := nx_fw L a 19 ha hk (by decide)
          refine (iX _ l m2).bind fun y a3 hy h3 m3 => ?_
          exact (iPL _ a3 l (two _ _ _ (by decide) (by decide) hx hy) m3).mono (by omega)
        · exact ⟨⟨Nat.le_refl _, ha⟩, hx⟩
    · intro a l ha
      rw [pPart]
      split
      · refine (pName_al L a ha).bind fun nm a1 hnm h1 m1 => ?_
        split
        · refine (iLs a1 l m1).bind fun xs a2 hxs h2 m2 => ?_
          exact ⟨⟨by omega, m2⟩, .inr (.inr (.inl ⟨rfl, hnm, rfl, by have := hxs.2; omega⟩)), hxs.1⟩
        · exact ⟨⟨h1, m1⟩, .inr (.inl ⟨rfl, hnm, rfl, rfl⟩), trivial⟩
      · split
        · refine (pEnter_al L 10 a l ha (by decide)).bind fun _ a1 _ h1 m1 => ?_
          refine (iE a1 _ m1).bind fun x a2 hx h2 m2 => ?_
          refine (pTake_al L 11 a2 m2 (by decide)).bind fun _ a3 _ h3 m3 => ?_
          exact ⟨⟨by omega, m3⟩, hx⟩
        · split
          · refine (pEnter_al L 17 a l ha (by decide)).bind fun _ a1 _ h1 m1 => ?_
            refine (iX a1 _ m1).bind fun x a2 hx h2 m2 => ?_
            exact ⟨⟨by omega, m2⟩, .inr (.inr (.inr (.inl ⟨rfl, rfl, rfl, rfl⟩))), hx, trivial⟩
          · exact pNum_al L a ha
    · intro a l ha
      rw [pList]
      refine (pEnter_al L 10 a l ha (by decide)).bind fun _ a1 _ h1 m1 => ?_
      refine Res.Al.bind (a := a1) (P := fun xs j => TWs xs ∧ xs.length ≤ j) ?_ fun xs a3 hxs h3 m3 => ?_
      · split
        · exact ⟨⟨Nat.le_refl _, m1⟩, trivial, Nat.zero_le _⟩
        · refine (iE a1 _ m1).bind fun x a2 hx h2 m2 => ?_
          exact (iA [x] a2 _ ⟨hx, trivial⟩ (by simp; omega) m2).mono (by omega)
      · refine (pTake_al L 11 a3 m3 (by decide)).bind fun _ a4 _ h4 m4 => ?_
        exact ⟨⟨by omega, m4⟩, hxs.1, by have := hxs.2; omega⟩
    · intro xs a l hxs hxl ha
      rw [pArgs]
      split
      · rename_i hk
        obtain ⟨h2, m2⟩ := nx_fw L a 12 ha hk (by decide)
        refine (iE _ l m2).bind fun x a3 hx h3 m3 => ?_
        exact (iA (xs ++ [x]) a3 l (hxs.app (ys := [x]) ⟨hx, trivial⟩) (by rw [List.length_append]; simp; omega) m3).mono (by omega)
      · exact ⟨⟨Nat.le_refl _, ha⟩, hxs, hxl⟩
theorem pNames_al (L : List UInt8) : ∀ (f : Nat) (xs : List (List UInt8 × Nat)) (a : Nat), (∀ x, x ∈ xs → NmOk x.1) → xs.length ≤ a → a ≤ L.length → (pNames L f xs a).Al L.length a (fun ys j => (∀ x, x ∈ ys → NmOk x.1) ∧ ys.length ≤ j)
  | 0, _, _, _, _, _ => by rw [pNames]; trivial
  | f + 1, xs, a, hxs, hxl, ha => by
    rw [pNames]
    split
    · rename_i hk
      obtain ⟨h2, m2⟩ := nx_fw L a 12 ha hk (by decide)
      refine (pName_al L _ m2).bind fun x j hx h3 m3 => ?_
      refine (pNames_al L f _ j (fun y hy => ?_) (by rw [List.length_append]; simp; omega) m3).mono (by omega)
      rcases List.mem_append.1 hy with hy | hy
      · exact hxs y hy
      · rw [List.mem_singleton.1 hy]; exact hx
    · exact ⟨⟨Nat.le_refl _, ha⟩, hxs, hxl⟩
theorem pBrack_al (L : List UInt8) (f a : Nat) (ha : a ≤ L.length) : (pBrack L f a).Al L.length (a + 1) (fun ys j => (∀ x, x ∈ ys → NmOk x.1) ∧ ys.length ≤ j) := by
  unfold pBrack
  refine (pTake_al L 10 a ha (by decide)).bind fun _ a1 _ h1 m1 => ?_
  refine Res.Al.bind (a := a1) (P := fun ys j => (∀ x, x ∈ ys → NmOk x.1) ∧ ys.length ≤ j) ?_ fun xs a3 hxs h3 m3 => ?_
  · split
    · exact ⟨⟨Nat.le_refl _, m1⟩, by simp, Nat.zero_le _⟩
    · refine (pName_al L a1 m1).bind fun x a2 hx h2 m2 => ?_
      exact (pNames_al L f _ a2 (by simpa using hx) (by simp; omega) m2).mono (by omega)
  · refine (pTake_al L 11 a3 m3 (by decide)).bind fun _ a4 _ h4 m4 => ?_
    exact ⟨⟨by omega, m4⟩, hxs.1, by have := hxs.2; omega⟩
/-- a function that is well formed -/
def FW (g : FnT) : Prop := NmOk g.name ∧ (∀ x, x ∈ g.more → NmOk x.1) ∧ g.more.length ≤ 4000 ∧ TW g.body
theorem FW.ok {g : FnT} (h : FW g) : FOk g := ⟨by have := h.1.2.1; omega, h.2.2.1, fun x hx => by have := (h.2.1 x hx).2.1; omega, TW.tok _ h.2.2.2⟩
theorem pFun_al (L : List UInt8) (hL : L.length ≤ 4000) (f a : Nat) (ha : a ≤ L.length) : (pFun L f a).Al L.length (a + 1) (fun g _ => FW g) := by
  unfold pFun
  refine (pTake_al L 4 a ha (by decide)).bind fun _ a1 _ h1 m1 => ?_
  refine (pName_al L a1 m1).bind fun nm a2 hnm h2 m2 => ?_
  refine (pBrack_al L f a2 m2).bind fun more a3 hmo h3 m3 => ?_
  refine (pTake_al L 14 a3 m3 (by decide)).bind fun _ a4 _ h4 m4 => ?_
  refine ((p_al L hL f).1 a4 0 m4).bind fun x a5 hx h5 m5 => ?_
  exact ⟨⟨by omega, m5⟩, hnm, hmo.1, by have := hmo.2; show more.length ≤ 4000; omega, hx⟩
theorem pProg_al (L : List UInt8) (hL : L.length ≤ 4000) : ∀ (f : Nat) (gs : List FnT) (a : Nat), (∀ g, g ∈ gs → FW g) → gs.length ≤ a → a ≤ L.length → (pProg L f gs a).Al L.length a (fun fs j => (∀ g, g ∈ fs → FW g) ∧ fs.length ≤ j)
  | 0, _, _, _, _, _ => by rw [pProg]; trivial
  | f + 1, gs, a, hgs, hgl, ha => by
    rw [pProg]
    split
    · exact ⟨⟨Nat.le_refl _, ha⟩, hgs, hgl⟩
    · refine (pFun_al L hL f a ha).bind fun g j hg h3 m3 => ?_
      refine (pProg_al L hL f _ j (fun y hy => ?_) (by rw [List.length_append]; simp; omega) m3).mono (by omega)
      rcases List.mem_append.1 hy with hy | hy
      · exact hgs y hy
      · rw [List.mem_singleton.1 hy]; exact hg
theorem TWs.at : ∀ {ts : List Tr} {j : Nat} {t : Tr}, TWs ts → ts[j]? = some t → TW t
  | [], j, t, _, h => by simp at h
  | x :: r, 0, t, hk, h => by simp at h; subst h; exact hk.1
  | x :: r, j + 1, t, hk, h => TWs.at hk.2 (by simpa using h)

end Go.Proofs.YthpkcageimhgaaaDoor
