/- Programs as text, plainly: what is read is well formed. Package source: what parsed defers. Package source: all functions of a text, read. Package source: a text's functions, or its first fault. attestref6: the cells that are told, and the machine's own words. -/
import Derived.Test.YtmmgkdcojkmlcaaGreatDoorLFAG
import Derived.Defers
import Derived.Recover
import Derived.Test.YtmmgkdcojkmlcaaGreatDoorLFAF
import Derived.Test.YtmmgkdcojkmlcaaGreatDoorFld
import Derived.StillTailTactics
namespace Go.Proofs.YtmmgkdcojkmlcaaGreatDoor

/-- a name that may stand in a program -/
def NmOk (nm : List UInt8) : Prop := nm ≠ [] ∧ nm.length ≤ 16 ∧ wkd nm = 2 ∧ nm.all inWd = true
/-- how a part may look -/
def shp (k : Nat) (nm : List UInt8) (n m : Nat) : Prop :=
  (k = 0 ∧ nm = [] ∧ n ≤ 9223372036854775807 ∧ m = 0) ∨ (k = 1 ∧ NmOk nm ∧ n = 0 ∧ m = 0) ∨ (k = 2 ∧ NmOk nm ∧ n = 0 ∧ m ≤ 4000) ∨ (k = 3 ∧ nm = [] ∧ n = 0 ∧ m = 1) ∨ (4 ≤ k ∧ k ≤ 8 ∧ nm = [] ∧ n = 0 ∧ m = 2) ∨ (k = 9 ∧ NmOk nm ∧ n = 0 ∧ m = 2) ∨ (10 ≤ k ∧ k ≤ 11 ∧ nm = [] ∧ n = 0 ∧ m = 3)
mutual
/-- a tree that is well formed -/
def TW : Tr → Prop
  | .node k nm _ n kids => shp k nm n kids.length ∧ TWs kids
def TWs : List Tr → Prop
  | [] => True
  | t :: r => TW t ∧ TWs r
end
theorem TWs.app : ∀ {xs ys : List Tr}, TWs xs → TWs ys → TWs (xs ++ ys)
  | [], _, _, h => h
  | _ :: _, _, hx, hy => ⟨hx.1, TWs.app hx.2 hy⟩
mutual
theorem TW.tok : ∀ (t : Tr), TW t → TOk t
  | .node k nm at' n kids, h => by
    obtain ⟨h1, h2⟩ := h
    refine ⟨?_, ?_, TWs.toks kids h2⟩
    · rcases h1 with h | h | h | h | h | h | h
      · rw [h.2.1]; simp
      · have := h.2.1.2.1; omega
      · have := h.2.1.2.1; omega
      · rw [h.2.1]; simp
      · rw [h.2.2.1]; simp
      · have := h.2.1.2.1; omega
      · rw [h.2.2.1]; simp
    · rcases h1 with h | h | h | h | h | h | h <;> omega
theorem TWs.toks : ∀ (ts : List Tr), TWs ts → TOks ts
  | [], _ => trivial
  | t :: r, h => ⟨TW.tok t h.1, TWs.toks r h.2⟩
end
/-- behind a place and so, if it is a result -/
def Res.Al {α : Type} (N a : Nat) (P : α → Nat → Prop) : Res α → Prop
  | .ok x j => (a ≤ j ∧ j ≤ N) ∧ P x j
  | .bad _ _ => True
  | .out => True
theorem Res.Fx.al {α : Type} {N a : Nat} {r : Res α} (h : r.Fx N a) : r.Al N a (fun _ _ => True) := by
  cases r with
  | ok x j => exact ⟨h, trivial⟩
  | bad e at' => trivial
  | out => trivial
theorem Res.Al.bind {α β : Type} {N a b : Nat} {P : α → Nat → Prop} {Q : β → Nat → Prop} {r : Res α} {f : α → Nat → Res β} (h : r.Al N a P) (hf : ∀ x j, P x j → a ≤ j → j ≤ N → (f x j).Al N b Q) : (r.bind f).Al N b Q := by
  cases r with
  | ok x j => exact hf x j h.2 h.1.1 h.1.2
  | bad e at' => trivial
  | out => trivial
theorem Res.Al.mono {α : Type} {N a b : Nat} {P : α → Nat → Prop} {r : Res α} (h : r.Al N a P) (hb : b ≤ a) : r.Al N b P := by
  cases r with
  | ok x j => exact ⟨⟨Nat.le_trans hb h.1.1, h.1.2⟩, h.2⟩
  | bad e at' => trivial
  | out => trivial
theorem tok_two (L : List UInt8) (a : Nat) (h : (tok L a).kind = 2) : (tok L a).text ≠ [] ∧ wkd (tok L a).text = 2 ∧ (tok L a).text.all inWd = true := by
  unfold tok at h ⊢
  generalize blank (L.drop a) = r at h ⊢
  unfold tokR at h ⊢
  by_cases hr : r = []
  · rw [if_pos hr] at h; cases h
  · rw [if_neg hr] at h ⊢
    by_cases ht : r.takeWhile inWd ≠ []
    · rw [if_pos ht] at h ⊢
      exact ⟨ht, h, List.all_takeWhile⟩
    · rw [if_neg ht] at h
      have := (sgn_two r).1.2.1
      simp at h
      omega
theorem pTake_al (L : List UInt8) (k a : Nat) (h : a ≤ L.length) (hk : k ≠ 1) : (pTake L k a).Al L.length (a + 1) (fun _ _ => True) := (pTake_fx L k a h hk).al
theorem pEnter_al (L : List UInt8) (k a l : Nat) (h : a ≤ L.length) (hk : k ≠ 1) : (pEnter L k a l).Al L.length (a + 1) (fun _ _ => True) := (pEnter_fx L k a l h hk).al
theorem pName_al (L : List UInt8) (a : Nat) (h : a ≤ L.length) : (pName L a).Al L.length (a + 1) (fun x _ => NmOk x.1) := by
  have h1 := pName_fx L a h
  revert h1
  unfold pName pTake
  by_cases hk : (tok L a).kind = 2
  · rw [if_pos hk]
    have h2 := tok_two L a hk
    show (Res.Fx _ _ (if _ then _ else _)) → Res.Al _ _ _ (if _ then _ else _)
    split
    · exact fun _ => trivial
    · exact fun h1 => ⟨h1, h2.1, by show (tok L a).text.length ≤ 16; omega, h2.2.1, h2.2.2⟩
  · rw [if_neg hk]
    exact fun _ => trivial
theorem pNum_al (L : List UInt8) (a : Nat) (h : a ≤ L.length) : (pNum L a).Al L.length (a + 1) (fun x _ => TW x) := by
  have h1 := pNum_fx L a h
  revert h1
  unfold pNum pTake
  by_cases hk : (tok L a).kind = 3
  · rw [if_pos hk]
    show (Res.Fx _ _ (if _ then _ else _)) → Res.Al _ _ _ (if _ then _ else _)
    split
    · exact fun _ => trivial
    · exact fun h1 => ⟨h1, .inl ⟨rfl, rfl, by omega, rfl⟩, trivial⟩
  · rw [if_neg hk]
    exact fun _ => trivial

/-- what is read is well formed -/
theorem p_al (L : List UInt8) (hL : L.length ≤ 4000) : ∀ (f : Nat),
    (∀ a l, a ≤ L.length → (pExpr L f a l).Al L.length (a + 1) (fun x _ => TW x)) ∧
    (∀ a l, a ≤ L.length → (pSum L f a l).Al L.length (a + 1) (fun x _ => TW x)) ∧
    (∀ x a l, TW x → a ≤ L.length → (pSumL L f x a l).Al L.length a (fun x _ => TW x)) ∧
    (∀ a l, a ≤ L.length → (pProd L f a l).Al L.length (a + 1) (fun x _ => TW x)) ∧
    (∀ x a l, TW x → a ≤ L.length → (pProdL L f x a l).Al L.length a (fun x _ => TW x)) ∧
    (∀ a l, a ≤ L.length → (pPart L f a l).Al L.length (a + 1) (fun x _ => TW x)) ∧
    (∀ a l, a ≤ L.length → (pList L f a l).Al L.length (a + 1) (fun xs j => TWs xs ∧ xs.length ≤ j)) ∧
    (∀ xs a l, TWs xs → xs.length ≤ a → a ≤ L.length → (pArgs L f xs a l).Al L.length a (fun xs j => TWs xs ∧ xs.length ≤ j))
  | 0 => by
    refine ⟨?_, ?_, ?_, ?_, ?_, ?_, ?_, ?_⟩
    all_goals (intros; first | (rw [pExpr]; trivial) | (rw [pSum]; trivial) | (rw [pSumL]; trivial) | (rw [pProd]; trivial) | (rw [pProdL]; trivial) | (rw [pPart]; trivial) | (rw [pList]; trivial) | (rw [pArgs]; trivial))
  | f + 1 => by
    obtain ⟨iE, iS, iSL, iP, iPL, iX, iLs, iA⟩ := p_al L hL f
    have two : ∀ k (x y : Tr), 4 ≤ k → k ≤ 8 → TW x → TW y → TW (.node k [] 0 0 [x, y]) := fun k x y h1 h2 hx hy => ⟨.inr (.inr (.inr (.inr (.inl ⟨h1, h2, rfl, rfl, rfl⟩)))), hx, hy, trivial⟩
    have three : ∀ k (x y z : Tr), 10 ≤ k → k ≤ 11 → TW x → TW y → TW z → TW (.node k [] 0 0 [x, y, z]) := fun k x y z h1 h2 hx hy hz => ⟨.inr (.inr (.inr (.inr (.inr (.inr ⟨h1, h2, rfl, rfl, rfl⟩))))), hx, hy, hz, trivial⟩
    refine ⟨?_, ?_, ?_, ?_, ?_, ?_, ?_, ?_⟩
    · intro a l ha
      rw [pExpr]
      split
      · refine (pEnter_al L 5 a l ha (by decide)).bind fun _ a1 _ h1 m1 => ?_
        refine (pName_al L a1 m1).bind fun nm a2 hnm h2 m2 => ?_
        refine (pTake_al L 14 a2 m2 (by decide)).bind fun _ a3 _ h3 m3 => ?_
        refine (iE a3 _ m3).bind fun x a4 hx h4 m4 => ?_
        refine (pTake_al L 13 a4 m4 (by decide)).bind fun _ a5 _ h5 m5 => ?_
        refine (iE a5 _ m5).bind fun y a6 hy h6 m6 => ?_
        exact ⟨⟨by omega, m6⟩, .inr (.inr (.inr (.inr (.inr (.inl ⟨rfl, hnm, rfl, rfl⟩))))), hx, hy, trivial⟩
      · split
        · refine (pEnter_al L 6 a l ha (by decide)).bind fun _ a1 _ h1 m1 => ?_
          refine (iS a1 _ m1).bind fun x a2 hx h2 m2 => ?_
          refine (pTake_al L 15 a2 m2 (by decide)).bind fun _ a3 _ h3 m3 => ?_
          refine (iS a3 _ m3).bind fun y a4 hy h4 m4 => ?_
          refine (pTake_al L 13 a4 m4 (by decide)).bind fun _ a5 _ h5 m5 => ?_
          refine (iE a5 _ m5).bind fun z a6 hz h6 m6 => ?_
          exact ⟨⟨by omega, m6⟩, three _ _ _ _ (by decide) (by decide) hx hy hz⟩
        · split
          · refine (pEnter_al L 7 a l ha (by decide)).bind fun _ a1 _ h1 m1 => ?_
            refine (iE a1 _ m1).bind fun x a2 hx h2 m2 => ?_
            refine (pTake_al L 8 a2 m2 (by decide)).bind fun _ a3 _ h3 m3 => ?_
            refine (iE a3 _ m3).bind fun y a4 hy h4 m4 => ?_
            refine (pTake_al L 9 a4 m4 (by decide)).bind fun _ a5 _ h5 m5 => ?_
            refine (iE a5 _ m5).bind fun z a6 hz h6 m6 => ?_
            exact ⟨⟨by omega, m6⟩, three _ _ _ _ (by decide) (by decide) hx hy hz⟩
          · refine (iS a l ha).bind fun x a1 hx h1 m1 => ?_
            split
            · rename_i hk
              obtain ⟨h2, m2⟩ := nx_fw L a1 15 m1 hk (by decide)
              refine (iS _ l m2).bind fun y a3 hy h3 m3 => ?_
              exact ⟨⟨by omega, m3⟩, two _ _ _ (by decide) (by decide) hx hy⟩
            · exact ⟨⟨h1, m1⟩, hx⟩
    · intro a l ha
      rw [pSum]
      refine (iP a l ha).bind fun x a1 hx h1 m1 => ?_
      exact (iSL x a1 l hx m1).mono h1
    · intro x a l hx ha
      rw [pSumL]
      split
      · rename_i hk
        obtain ⟨h2, m2⟩ := nx_fw L a 16 ha hk (by decide)
        refine (iP _ l m2).bind fun y a3 hy h3 m3 => ?_
        exact (iSL _ a3 l (two _ _ _ (by decide) (by decide) hx hy) m3).mono (by omega)
      · split
        · rename_i hk
          obtain ⟨h2, m2⟩ := nx_fw L a 17 ha hk (by decide)
          refine (iP _ l m2).bind fun y a3 hy h3 m3 => ?_
          exact (iSL _ a3 l (two _ _ _ (by decide) (by decide) hx hy) m3).mono (by omega)
        · exact ⟨⟨Nat.le_refl _, ha⟩, hx⟩
    · intro a l ha
      rw [pProd]
      refine (iX a l ha).bind fun x a1 hx h1 m1 => ?_
      exact (iPL x a1 l hx m1).mono h1
    · intro x a l hx ha
      rw [pProdL]
      split
      · rename_i hk
        obtain ⟨h2, m2⟩ := nx_fw L a 18 ha hk (by decide)
        refine (iX _ l m2).bind fun y a3 hy h3 m3 => ?_
        exact (iPL _ a3 l (two _ _ _ (by decide) (by decide) hx hy) m3).mono (by omega)
      · split
        · rename_i hk
          obtain ⟨h2, m2⟩ := nx_fw L a 19 ha hk (by decide)
          refine (iX _ l m2).bind fun y a3 hy h3 m3 => ?_
          exact (iPL _ a3 l (two _ _ _ (by decide) (by decide) hx hy) m3).mono (by omega)
        · exact ⟨⟨Nat.le_refl _, ha⟩, hx⟩
    · intro a l ha
      rw [pPart]
      split
      · refine (pName_al L a ha).bind fun nm a1 hnm h1 m1 => ?_
        split
        · refine (iLs a1 l m1).bind fun xs a2 hxs h2 m2 => ?_
          exact ⟨⟨by omega, m2⟩, .inr (.inr (.inl ⟨rfl, hnm, rfl, by have := hxs.2; omega⟩)), hxs.1⟩
        · exact ⟨⟨h1, m1⟩, .inr (.inl ⟨rfl, hnm, rfl, rfl⟩), trivial⟩
      · split
        · refine (pEnter_al L 10 a l ha (by decide)).bind fun _ a1 _ h1 m1 => ?_
          refine (iE a1 _ m1).bind fun x a2 hx h2 m2 => ?_
          refine (pTake_al L 11 a2 m2 (by decide)).bind fun _ a3 _ h3 m3 => ?_
          exact ⟨⟨by omega, m3⟩, hx⟩
        · split
          · refine (pEnter_al L 17 a l ha (by decide)).bind fun _ a1 _ h1 m1 => ?_
            refine (iX a1 _ m1).bind fun x a2 hx h2 m2 => ?_
            exact ⟨⟨by omega, m2⟩, .inr (.inr (.inr (.inl ⟨rfl, rfl, rfl, rfl⟩))), hx, trivial⟩
          · exact pNum_al L a ha
    · intro a l ha
      rw [pList]
      refine (pEnter_al L 10 a l ha (by decide)).bind fun _ a1 _ h1 m1 => ?_
      refine Res.Al.bind (a := a1) (P := fun xs j => TWs xs ∧ xs.length ≤ j) ?_ fun xs a3 hxs h3 m3 => ?_
      · split
        · exact ⟨⟨Nat.le_refl _, m1⟩, trivial, Nat.zero_le _⟩
        · refine (iE a1 _ m1).bind fun x a2 hx h2 m2 => ?_
          exact (iA [x] a2 _ ⟨hx, trivial⟩ (by simp; omega) m2).mono (by omega)
      · refine (pTake_al L 11 a3 m3 (by decide)).bind fun _ a4 _ h4 m4 => ?_
        exact ⟨⟨by omega, m4⟩, hxs.1, by have := hxs.2; omega⟩
    · intro xs a l hxs hxl ha
      rw [pArgs]
      split
      · rename_i hk
        obtain ⟨h2, m2⟩ := nx_fw L a 12 ha hk (by decide)
        refine (iE _ l m2).bind fun x a3 hx h3 m3 => ?_
        exact (iA (xs ++ [x]) a3 l (hxs.app (ys := [x]) ⟨hx, trivial⟩) (by rw [List.length_append]; simp; omega) m3).mono (by omega)
      · exact ⟨⟨Nat.le_refl _, ha⟩, hxs, hxl⟩
theorem pNames_al (L : List UInt8) : ∀ (f : Nat) (xs : List (List UInt8 × Nat)) (a : Nat), (∀ x, x ∈ xs → NmOk x.1) → xs.length ≤ a → a ≤ L.length → (pNames L f xs a).Al L.length a (fun ys j => (∀ x, x ∈ ys → NmOk x.1) ∧ ys.length ≤ j)
  | 0, _, _, _, _, _ => by rw [pNames]; trivial
  | f + 1, xs, a, hxs, hxl, ha => by
    rw [pNames]
    split
    · rename_i hk
      obtain ⟨h2, m2⟩ := nx_fw L a 12 ha hk (by decide)
      refine (pName_al L _ m2).bind fun x j hx h3 m3 => ?_
      refine (pNames_al L f _ j (fun y hy => ?_) (by rw [List.length_append]; simp; omega) m3).mono (by omega)
      rcases List.mem_append.1 hy with hy | hy
      · exact hxs y hy
      · rw [List.mem_singleton.1 hy]; exact hx
    · exact ⟨⟨Nat.le_refl _, ha⟩, hxs, hxl⟩
theorem pBrack_al (L : List UInt8) (f a : Nat) (ha : a ≤ L.length) : (pBrack L f a).Al L.length (a + 1) (fun ys j => (∀ x, x ∈ ys → NmOk x.1) ∧ ys.length ≤ j) := by
  unfold pBrack
  refine (pTake_al L 10 a ha (by decide)).bind fun _ a1 _ h1 m1 => ?_
  refine Res.Al.bind (a := a1) (P := fun ys j => (∀ x, x ∈ ys → NmOk x.1) ∧ ys.length ≤ j) ?_ fun xs a3 hxs h3 m3 => ?_
  · split
    · exact ⟨⟨Nat.le_refl _, m1⟩, by simp, Nat.zero_le _⟩
    · refine (pName_al L a1 m1).bind fun x a2 hx h2 m2 => ?_
      exact (pNames_al L f _ a2 (by simpa using hx) (by simp; omega) m2).mono (by omega)
  · refine (pTake_al L 11 a3 m3 (by decide)).bind fun _ a4 _ h4 m4 => ?_
    exact ⟨⟨by omega, m4⟩, hxs.1, by have := hxs.2; omega⟩
/-- a function that is well formed -/
def FW (g : FnT) : Prop := NmOk g.name ∧ (∀ x, x ∈ g.more → NmOk x.1) ∧ g.more.length ≤ 4000 ∧ TW g.body
theorem FW.ok {g : FnT} (h : FW g) : FOk g := ⟨by have := h.1.2.1; omega, h.2.2.1, fun x hx => by have := (h.2.1 x hx).2.1; omega, TW.tok _ h.2.2.2⟩
theorem pFun_al (L : List UInt8) (hL : L.length ≤ 4000) (f a : Nat) (ha : a ≤ L.length) : (pFun L f a).Al L.length (a + 1) (fun g _ => FW g) := by
  unfold pFun
  refine (pTake_al L 4 a ha (by decide)).bind fun _ a1 _ h1 m1 => ?_
  refine (pName_al L a1 m1).bind fun nm a2 hnm h2 m2 => ?_
  refine (pBrack_al L f a2 m2).bind fun more a3 hmo h3 m3 => ?_
  refine (pTake_al L 14 a3 m3 (by decide)).bind fun _ a4 _ h4 m4 => ?_
  refine ((p_al L hL f).1 a4 0 m4).bind fun x a5 hx h5 m5 => ?_
  exact ⟨⟨by omega, m5⟩, hnm, hmo.1, by have := hmo.2; show more.length ≤ 4000; omega, hx⟩
theorem pProg_al (L : List UInt8) (hL : L.length ≤ 4000) : ∀ (f : Nat) (gs : List FnT) (a : Nat), (∀ g, g ∈ gs → FW g) → gs.length ≤ a → a ≤ L.length → (pProg L f gs a).Al L.length a (fun fs j => (∀ g, g ∈ fs → FW g) ∧ fs.length ≤ j)
  | 0, _, _, _, _, _ => by rw [pProg]; trivial
  | f + 1, gs, a, hgs, hgl, ha => by
    rw [pProg]
    split
    · exact ⟨⟨Nat.le_refl _, ha⟩, hgs, hgl⟩
    · refine (pFun_al L hL f a ha).bind fun g j hg h3 m3 => ?_
      refine (pProg_al L hL f _ j (fun y hy => ?_) (by rw [List.length_append]; simp; omega) m3).mono (by omega)
      rcases List.mem_append.1 hy with hy | hy
      · exact hgs y hy
      · rw [List.mem_singleton.1 hy]; exact hg
theorem TWs.at : ∀ {ts : List Tr} {j : Nat} {t : Tr}, TWs ts → ts[j]? = some t → TW t
  | [], j, t, _, h => by simp at h
  | x :: r, 0, t, hk, h => by simp at h; subst h; exact hk.1
  | x :: r, j + 1, t, hk, h => TWs.at hk.2 (by simpa using h)

end Go.Proofs.YtmmgkdcojkmlcaaGreatDoor

namespace Go.Proofs.YtmmgkdcojkmlcaaGreatDoor
open Go.RowKit

theorem fr17 (a b c v : Value) : (#[a, b, c] ++ (Array.replicate 14 undef).setIfInBounds 3 v : Array Value) = #[a, b, c, undef, undef, undef, v, undef, undef, undef, undef, undef, undef, undef, undef, undef, undef] := by kernel_rfl
theorem eqS_nil (w : World) : (binOp BinOp.eql 20 .nilIface .nilIface).run Tryz.prog w = .ok (.bool true) w := by kernel_rfl
theorem neS_nil (T : TypeId) (v : Value) (w : World) : (binOp BinOp.eql 20 (.iface T v) .nilIface).run Tryz.prog w = .ok (.bool false) w := by kernel_rfl

set_option maxRecDepth 100000 in
set_option maxHeartbeats 400000 in
theorem catchS_idle (p q r : Addr) (w : World) :
    CallsD Tryz.prog 33 #[.pointer (some p), .pointer (some q), .pointer (some r)] .returning w fun e u' w' => e = .returned (.tuple #[]) ∧ u' = .returning ∧ w' = w := by
  refine callsD_of_wpS Tryz.func33 rfl fun c₀ cs hu => ?_
  have hnil := eqS_nil
  apply wpS_seq
  apply wpS_region
  simp [wpOpsS, go_sem, recoverD, hu, Tryz.ntmps33, Exit.thenS]
  rw [fr17]
  refine wpS_of_wp ?_
  go_wp2_with fail
  cases c₀
  simp_all [bodyPostS, results, Tryz.results33]

theorem frozenS_alloc_old (w : World) (o : Obj) {p : Addr} (h : p.block < w.heap.size) : (w.alloc o).frozen? p = w.frozen? p := by
  have e : (w.alloc o).heap[p.block]? = w.heap[p.block]? := ((Below.refl _ w).alloc (Nat.le_refl _) o).block _ h
  unfold World.frozen?
  rw [e]
theorem ta_fault (a b : Value) (w : World) : (Instr.typeAssert (.iface 101 (.agg #[a, b])) 20 101 true).run Tryz.prog w = .ok (.tuple #[.agg #[a, b], .bool true]) w := by kernel_rfl

set_option maxRecDepth 100000 in
set_option maxHeartbeats 400000 in
theorem catchS_fault (P Q R at' er : Nat) (a b c : Value) (w : World) (h1 : w.cell? ⟨P, 0, none⟩ = some a) (h2 : w.cell? ⟨Q, 0, none⟩ = some b) (h3 : w.cell? ⟨R, 0, none⟩ = some c) (f1 : w.frozen? ⟨P, 0, none⟩ = false) (f2 : w.frozen? ⟨Q, 0, none⟩ = false) (f3 : w.frozen? ⟨R, 0, none⟩ = false) (hPQ : P ≠ Q) (hPR : P ≠ R) (hQR : Q ≠ R) :
    CallsD Tryz.prog 33 #[.pointer (some ⟨P, 0, none⟩), .pointer (some ⟨Q, 0, none⟩), .pointer (some ⟨R, 0, none⟩)] (.panicking [{ v := .iface 101 (.agg #[.int .i64 (at' : Int), .int .i64 (er : Int)]), recovered := false }]) w fun e u' w' => e = .returned (.tuple #[]) ∧ u' = .panicking [{ v := .iface 101 (.agg #[.int .i64 (at' : Int), .int .i64 (er : Int)]), recovered := true }] ∧
      w' = ((((w.alloc (.cells #[.int .i64 (at' : Int), .int .i64 (er : Int)] 101)).drew.setCell ⟨P, 0, none⟩ (.slice none 0 0)).setCell ⟨Q, 0, none⟩ (.int .i64 (at' : Int))).setCell ⟨R, 0, none⟩ (.iface 57 (.int .i64 (er : Int)))) := by
  refine callsD_of_wpS Tryz.func33 rfl fun c₀ cs hu => ?_
  have hnil := neS_nil
  have hta := ta_fault
  obtain ⟨W0, hW0⟩ : ∃ W0, W0 = w.alloc (.cells #[.int .i64 (at' : Int), .int .i64 (er : Int)] 101) := ⟨_, rfl⟩
  have hb0 : Below w.heap.size w W0 := by rw [hW0]; exact (Below.refl _ _).alloc (Nat.le_refl _) _
  have k1 := (hb0.cell (p := ⟨P, 0, none⟩) (World.block_lt_of_cell? _ _ h1)).trans h1
  have m1 : W0.frozen? ⟨P, 0, none⟩ = false := by rw [hW0, frozenS_alloc_old w _ (World.block_lt_of_cell? _ _ h1)]; exact f1
  have k2 := (hb0.cell (p := ⟨Q, 0, none⟩) (World.block_lt_of_cell? _ _ h2)).trans h2
  have m2 : W0.frozen? ⟨Q, 0, none⟩ = false := by rw [hW0, frozenS_alloc_old w _ (World.block_lt_of_cell? _ _ h2)]; exact f2
  have k3 := (hb0.cell (p := ⟨R, 0, none⟩) (World.block_lt_of_cell? _ _ h3)).trans h3
  have m3 : W0.frozen? ⟨R, 0, none⟩ = false := by rw [hW0, frozenS_alloc_old w _ (World.block_lt_of_cell? _ _ h3)]; exact f3
  have l1 := World.block_lt_of_cell? _ _ h1
  have l2 := World.block_lt_of_cell? _ _ h2
  have l3 := World.block_lt_of_cell? _ _ h3
  have g0 : W0.cell? ⟨w.heap.size, 0, none⟩ = some (.int .i64 (at' : Int)) := by rw [hW0]; go_simp
  have g1 : W0.cell? ⟨w.heap.size, 1, none⟩ = some (.int .i64 (er : Int)) := by rw [hW0]; go_simp
  clear h1 h2 h3 f1 f2 f3 hb0
  rw [← hW0]
  apply wpS_seq
  apply wpS_region
  simp [wpOpsS, go_sem, recoverD, hu, Tryz.ntmps33, Exit.thenS]
  rw [fr17]
  refine wpS_of_wp ?_
  go_wp2_with fail
  rw [← hW0]
  have HO : Hid (∀ (W : World) (g : Nat) (u : Value), g < w.heap.size → (W.cell? ⟨w.heap.size, 0, none⟩ = some (.int .i64 (at' : Int)) ∧ W.cell? ⟨w.heap.size, 1, none⟩ = some (.int .i64 (er : Int))) → ((W.setCell ⟨g, 0, none⟩ u).cell? ⟨w.heap.size, 0, none⟩ = some (.int .i64 (at' : Int)) ∧ (W.setCell ⟨g, 0, none⟩ u).cell? ⟨w.heap.size, 1, none⟩ = some (.int .i64 (er : Int)))) := fun W g u hg h =>
    ⟨(World.cell?_of_block (w := W) (a := ⟨w.heap.size, 0, none⟩) (Below.heap_setCell _ _ _ _ (by show w.heap.size ≠ g; omega))).trans h.1, (World.cell?_of_block (w := W) (a := ⟨w.heap.size, 1, none⟩) (Below.heap_setCell _ _ _ _ (by show w.heap.size ≠ g; omega))).trans h.2⟩
  clear hW0
  refine wp_region_held_drew (S := (fun W => W.cell? ⟨w.heap.size, 0, none⟩ = some (.int .i64 (at' : Int)) ∧ W.cell? ⟨w.heap.size, 1, none⟩ = some (.int .i64 (er : Int)))) (by kernel_rfl) ⟨g0, g1⟩ (fun hHeld => ?_)
  refine wpAnyH_takeS (i := 0) (v := .pointer (some ⟨w.heap.size, 0, none⟩)) rfl (by kernel_rfl) (by kernel_rfl) (by kernel_rfl) (fun _ _ _ h => h) (by rfl) (fun W hC => by go_simp) hHeld ?_
  simp only [Act.put, List.setIfInBounds_toArray, List.set_cons_zero, List.set_cons_succ]
  refine wpAnyH_takeS (i := 1) (v := .int .i64 (at' : Int)) rfl (by kernel_rfl) (by kernel_rfl) (by kernel_rfl) (fun _ _ _ h => h) (by rfl) (fun W hC => by (obtain ⟨y0, y1⟩ := hC); go_simp) hHeld ?_
  simp only [Act.put, List.setIfInBounds_toArray, List.set_cons_zero, List.set_cons_succ]
  refine wpAnyH_takeS (i := 2) (v := .pointer (some ⟨w.heap.size, 1, none⟩)) rfl (by kernel_rfl) (by kernel_rfl) (by kernel_rfl) (fun _ _ _ h => h) (by rfl) (fun W hC => by go_simp) hHeld ?_
  simp only [Act.put, List.setIfInBounds_toArray, List.set_cons_zero, List.set_cons_succ]
  refine wpAnyH_takeS (i := 3) (v := .int .i64 (er : Int)) rfl (by kernel_rfl) (by kernel_rfl) (by kernel_rfl) (fun _ _ _ h => h) (by rfl) (fun W hC => by (obtain ⟨y0, y1⟩ := hC); go_simp) hHeld ?_
  simp only [Act.put, List.setIfInBounds_toArray, List.set_cons_zero, List.set_cons_succ]
  refine wpAnyH_takeS (i := 4) (v := .iface 57 (.int .i64 (er : Int))) rfl (by kernel_rfl) (by kernel_rfl) (by kernel_rfl) (fun _ _ _ h => h) (by rfl) (fun W hC => by go_simp) hHeld ?_
  simp only [Act.put, List.setIfInBounds_toArray, List.set_cons_zero, List.set_cons_succ]
  have j1 : W0.drew.cell? ⟨P, 0, none⟩ = some a := k1
  have j2 : W0.drew.cell? ⟨Q, 0, none⟩ = some b := k2
  have j3 : W0.drew.cell? ⟨R, 0, none⟩ = some c := k3
  have n1 : W0.drew.frozen? ⟨P, 0, none⟩ = false := m1
  have n2 : W0.drew.frozen? ⟨Q, 0, none⟩ = false := m2
  have n3 : W0.drew.frozen? ⟨R, 0, none⟩ = false := m3
  clear k1 k2 k3 m1 m2 m3 g0 g1
  obtain ⟨V0, hV0⟩ : ∃ V0, V0 = W0.drew := ⟨_, rfl⟩
  rw [← hV0] at j1 j2 j3 n1 n2 n3 hHeld ⊢
  have HV0 := hid hV0
  clear hV0
  refine wpAnyH_ready (rs := [5]) (by kernel_rfl) (by simp) ?_
  refine AllReadyH.consS rfl (fun K hK => ?_) AllReadyH.nil
  go_simp
  refine hK.out _ _ (HO.out _ P _ l1 hHeld) (fun hHeld => ?_)
  clear hK K
  refine wpAnyH_ready (rs := [6]) (by kernel_rfl) (by simp) ?_
  refine AllReadyH.consS rfl (fun K hK => ?_) AllReadyH.nil
  go_simp
  refine hK.out _ _ (HO.out _ Q _ l2 hHeld) (fun hHeld => ?_)
  clear hK K
  refine wpAnyH_ready (rs := [7]) (by kernel_rfl) (by simp) ?_
  refine AllReadyH.consS rfl (fun K hK => ?_) AllReadyH.nil
  go_simp
  refine hK.out _ _ (HO.out _ R _ l3 hHeld) (fun hHeld => ?_)
  clear hK K
  refine wpAnyH_done (by kernel_rfl) ?_ _
  go_wp2_with fail
  simp [bodyPostS, results, Tryz.results33]
  rw [HV0.out]
  rfl

end Go.Proofs.YtmmgkdcojkmlcaaGreatDoor

namespace Go.Proofs.YtmmgkdcojkmlcaaGreatDoor
open Go.RowKit

/-- the library's own error is there -/
def EvW (w : World) : Prop := 3 < w.heap.size ∧ ∃ ev, w.cell? ⟨3, 0, none⟩ = some ev ∧ (ev = .nilIface ∨ ∃ te pe, ev = .iface te pe)
theorem EvW.below {w w' : World} (h : EvW w) (g : Below w.heap.size w w') : EvW w' := by
  obtain ⟨h1, ev, h2, h3⟩ := h
  exact ⟨Nat.lt_of_lt_of_le h1 g.size, ev, (g.cell (p := ⟨3, 0, none⟩) h1).trans h2, h3⟩
/-- how the reading of a text ends -/
def RdP (w : World) (r : Res (List FnT)) (e : Ending) (w' : World) : Prop := Below w.heap.size w w' ∧ match r with
  | .ok fs _ => ∃ a c, e = .returned (.slice a fs.length c) ∧ (fs.length ≤ c ∧ c ≤ maxLen) ∧ FnR w.heap.size w' a fs
  | .bad er at' => e = pncF at' er
  | .out => False

theorem pFun_nx {L : List UInt8} {f a j : Nat} {g : FnT} (h : pFun L f a = .ok g j) : a ≤ L.length → (tok L a).at' + 1 ≤ j := by
  intro ha
  have hk : (pFun L f a).Fx L.length (tok L a).nx := by
    unfold pFun
    cases hp : pTake L 4 a with
    | out => trivial
    | bad e a => trivial
    | ok t a1 =>
      obtain ⟨e1, e2, e3⟩ := pTake_ok hp
      have h1 := tok_at L a ha
      show Res.Fx _ _ ((pName L a1).bind _)
      rw [e2]
      refine (pName_fx L _ h1.2.1).bind fun nm a2 _ h2 m2 => ?_
      refine (pBrack_fx L f a2 m2).bind fun more a3 _ h3 m3 => ?_
      refine (pTake_fx L 14 a3 m3 (by decide)).bind fun _ a4 _ h4 m4 => ?_
      refine ((p_fx L f).1 a4 0 m4).bind fun x a5 _ h5 m5 => ?_
      exact ⟨by omega, m5⟩
  rw [h] at hk
  have h2 : (tok L a).kind = 4 := by
    unfold pFun at h
    cases hp : pTake L 4 a with
    | out => rw [hp] at h; cases h
    | bad e a => rw [hp] at h; cases h
    | ok t a1 => exact (pTake_ok hp).2.2
  have h3 := (tok_at L a ha).2.2.2.1 (by rw [h2]; decide)
  have h4 := hk.1
  omega

set_option maxRecDepth 100000 in
set_option maxHeartbeats 4000000 in
theorem readX (T : ByteArray) (f : Nat) (w : World) (hT : T.size ≤ 4000) (hEv : EvW w) (r : Res (List FnT)) (hr : r = pProg (by' T) f [] 0) (hro : r ≠ .out) :
    Calls Tryz.prog 34 #[.string T] w (RdP w r) := by
  have HTK := hid (tokenAt_any T 0 w (by omega) (Nat.zero_le _))
  have HEv := hid hEv
  have HR := hid hr
  have HRO := hid hro
  have HSM := hid hT
  have hFI : (Tryz.prog.info? 72).map (fun i => (i.zero, i.size, i.bytes)) = some (some (.agg #[.string ⟨#[]⟩, .int .i64 0, .slice none 0 0, .pointer none]), 4, 56) := by kernel_rfl
  obtain ⟨i0, hi, hz0, hz1, hz2⟩ := info_parts hFI
  have HI := hid (And.intro hi (And.intro hz0 (And.intro hz1 hz2)))
  clear hr hro hT hEv hi hz0 hz1 hz2 hFI
  go_enter Tryz.func34, Tryz.ntmps34
  go_wp2_with fail
  refine HTK.out.mono ?_
  rintro e w1 ⟨rfl, hb1⟩
  obtain ⟨R, hRR⟩ : ∃ R, R = w1.heap.size := ⟨_, rfl⟩
  obtain ⟨W1, hW1⟩ : ∃ W1, W1 = w1.alloc (.cells #[.string T, .int .i64 ((tok (by' T) 0).kind : Int), .int .i64 ((tok (by' T) 0).at' : Int), .string (bs (tok (by' T) 0).text), .int .i64 0] 146) := ⟨_, rfl⟩
  have hbW : Below w1.heap.size w1 W1 := by rw [hW1]; exact (Below.refl _ _).alloc (Nat.le_refl _) _
  have hz : W1.heap.size = R + 1 := by rw [hW1, hRR]; simp
  have hev1 := HEv.out.below hb1
  have hrd : RdAt W1 R T 0 0 := by
    refine ⟨?_, Nat.zero_le _, HSM.out, ?_⟩
    · rw [hW1, hRR]; exact heap_alloc_new w1 _
    · obtain ⟨k1, ev, k2, k3⟩ := hev1
      exact ⟨by rw [hRR]; exact k1, ev, (hbW.cell (p := ⟨3, 0, none⟩) k1).trans k2, k3⟩
  have HD0 := hid hrd
  have HB1 : Hid (Below w.heap.size w W1) := hb1.trans (hbW.mono hb1.size)
  have HZ := hid hz
  have hwR : w.heap.size ≤ R := by have := hb1.size; omega
  have HWR := hid hwR
  have HRR := hid hRR
  have HW1 := hid hW1
  have hlt : R < W1.heap.size := by omega
  clear hrd hbW hev1 hb1 hz hwR hW1 hRR
  unfold tokv
  go_wp2_with fail
  rw [← HW1.out, ← HRR.out]
  clear HW1 HRR HTK
  have HA0 : Hid (∃ g, g ≤ f ∧ r = pProg (by' T) g [] 0) := ⟨f, Nat.le_refl _, HR.out⟩
  go_loopw [4] (fun v wr => ∃ (fs : List FnT) (a : Nat), Hid (Fr R W1 wr) ∧ Hid (RdAt wr R T a 0) ∧ Hid (FnRow W1.heap.size wr v fs) ∧ Hid (fs.length ≤ a) ∧ Hid (∃ g, g ≤ f ∧ r = pProg (by' T) g fs a)) (fun _ wr => T.size + 1 - rdm R wr)
  case atStart => exact ⟨[], 0, Fr.refl _ _, HD0, ⟨[], World.ownsRow_nil _ _ _ _, fun i g hg => by simp at hg⟩, Nat.zero_le _, HA0⟩
  case round =>
    obtain ⟨fs, a, hF, hD, hRw, hLn, hAr⟩ := hrel
    obtain ⟨av, cv, rfl⟩ := hRw.out.form
    have c1 : wr.cell? ⟨R, 1, none⟩ = some (.int .i64 ((tok (by' T) a).kind : Int)) := by simp [World.cell?, hD.out.h]
    clear HD0 HA0 HR
    have HRD := hid hD.out.rdm
    have hta := tok_at (by' T) a (by rw [by_len]; exact hD.out.le)
    have HTA := hid hta
    clear hta
    obtain ⟨ka, hka⟩ : ∃ ka, (tok (by' T) a).kind = ka := ⟨_, rfl⟩
    rw [hka] at c1
    have HKA := hid hka
    obtain ⟨n, hn⟩ : ∃ n, fs.length = n := ⟨_, rfl⟩
    have HN := hid hn
    rw [hn] at hRw ⊢
    have hgx : ∃ g, g + 1 ≤ f ∧ r = pProg (by' T) (g + 1) fs a := by
      obtain ⟨g, hg, h1⟩ := hAr.out
      cases g with
      | zero => rw [pProg] at h1; exact absurd h1 HRO.out
      | succ g => exact ⟨g, hg, h1⟩
    obtain ⟨g, hgf, hr2⟩ := hgx
    rw [pProg, hka] at hr2
    have HG := hid hgf
    have HR1 := hid hr2
    clear hr2 hgf hAr
    by_cases h1 : ka = 1
    · have q1 : ((ka : Int) != 1) = false := by rw [h1]; rfl
      have hr2 := HR1.out
      rw [if_pos h1] at hr2
      have HR2 := hid hr2
      clear hr2 h1 hka hn HR1
      go_wp2_with fail
      go_ret
      have hr3 := HR2.out
      subst hr3
      have hbw : Below w.heap.size w wr := HB1.out.trans (hF.out.1.mono HWR.out)
      obtain ⟨a2, c2, e1, hcc, h5⟩ := hRw.out.vl
      injection e1 with e1 _ e3
      subst e1
      subst e3
      refine ⟨hbw, _, _, by rw [HN.out]; rfl, hcc, ?_⟩
      have hle := HB1.out.size
      intro i y hy
      obtain ⟨k, a3, c, b, k1, k2, k3, k4, k5, k6, k7, k8⟩ := h5 i y hy
      exact ⟨k, a3, c, b, k1, by omega, k3, k4, k5, k6, k7.keep hle (fun _ _ _ => rfl), k8.mono hle⟩
    · have q1 : ((ka : Int) != 1) = true := by simp; omega
      have hr2 := HR1.out
      rw [if_neg h1] at hr2
      have hne : pFun (by' T) g a ≠ .out := fun e => by rw [e] at hr2; exact HRO.out hr2
      have HC := hid (functionX R T g a wr hD.out _ rfl hne)
      have HFX := hid (pFun_fx (by' T) g a (by rw [by_len]; exact hD.out.le))
      have HR2 := hid hr2
      have HK1 := hid h1
      clear hr2 h1 hka hn HR1
      go_wp2_with fail
      refine HC.out.mono ?_
      intro e w4 he
      have hr2 := HR2.out
      cases ht : pFun (by' T) g a with
      | out => exact absurd ht hne
      | bad er at' =>
        rw [ht] at he hr2
        obtain ⟨h5, rfl, h6⟩ := he
        simp only [Res.bind] at hr2
        subst hr2
        exact ⟨rfl, HB1.out.trans ((hF.out.trans h5).1.mono HWR.out), rfl⟩
      | ok fn a1 =>
        rw [ht] at he hr2
        obtain ⟨h5, v, rfl, ⟨a2, c2, b2, rfl, hnm, hpt⟩, h6⟩ := he
        simp only [Res.bind] at hr2
        have hfx := HFX.out
        rw [ht] at hfx
        have HFUN := hid (pFun_nx ht)
        have HDL := hid hD.out.le
        have hF4 := hF.out.trans h5
        have hRw4 := hRw.out.fr h5 hlt
        obtain ⟨xs, hown4, hel4⟩ := hRw4
        have hgl : ∀ k, (Value.slice av n cv).ownBlock = some k → W1.heap.size ≤ k ∧ k < wr.heap.size := fun k e => by
          obtain ⟨xs3, h7, _⟩ := hRw.out
          exact h7.lt k e
        have hsr := hF.out.size
        have hkB : ∀ b, wr.heap.size ≤ b → W1.heap.size ≤ b ∧ some b ≠ (Value.slice av n cv).ownBlock := fun b hb => ⟨by omega, fun e => by have := hgl b e.symm; omega⟩
        obtain ⟨s, hs⟩ : ∃ s, s = bs fn.name := ⟨_, rfl⟩
        have HS := hid hs
        obtain ⟨m, hm⟩ : ∃ m, m = fn.more.length := ⟨_, rfl⟩
        have HMM := hid hm
        rw [← hs, ← hm]
        have hbA : Below w4.heap.size w4 (w4.alloc (.cells #[.string s, .int .i64 (fn.at' : Int), .slice a2 m c2, .pointer (some ⟨b2, 0, none⟩)] 72)) := (Below.refl _ _).alloc (Nat.le_refl _) _
        have HNB := hid (NmB.keep (B' := fun b => W1.heap.size ≤ b ∧ some b ≠ (Value.slice av n cv).ownBlock) hnm (fun b hb hl2 => ⟨hkB b hb, hbA.block b hl2⟩))
        have HPB := hid (PTB.keep (B' := fun b => W1.heap.size ≤ b ∧ some b ≠ (Value.slice av n cv).ownBlock) (fun b hb hl2 => ⟨hkB b hb, hbA.block b hl2⟩) _ _ hpt)
        have hownA := hown4.alloc (.cells #[.string s, .int .i64 (fn.at' : Int), .slice a2 m c2, .pointer (some ⟨b2, 0, none⟩)] 72)
        have HELA := hid (fun i g hg => (hel4 i g hg).keep (B' := fun b => W1.heap.size ≤ b ∧ some b ≠ (Value.slice av n cv).ownBlock) (fun b hB hl2 => ⟨hB, hbA.block b hl2⟩))
        have hAr2 : ∃ g, g ≤ f ∧ r = pProg (by' T) g (fs ++ [fn]) a1 := ⟨g, by have := HG.out; omega, hr2⟩
        have hLn2 : (fs ++ [fn]).length ≤ a1 := by
          have h7 := hLn.out
          have h9 := hfx.1
          rw [List.length_append]
          show fs.length + 1 ≤ a1
          omega
        have hn4 : n ≤ 4000 := by
          have h7 := hLn.out
          have h8 := HSM.out
          have h9 := hD.out.le
          have h10 := HN.out
          omega
        have hs4 := hF4.size
        have HOWN := hid hownA
        have HAr2 := hid hAr2
        have HLn2 := hid hLn2
        have HF4 := hid hF4
        have HD4 := hid h6
        have HGL := hid hgl
        have HN4 := hid hn4
        have HS4 := hid hs4
        have hln : fs.length = n := HN.out
        rw [hln] at HOWN
        have HFX2 := hid hfx
        have HBA := hid hbA
        clear hownA hown4 hel4 hAr2 hLn2 hF4 h6 hgl hn4 hs4 hbA hnm hpt h5 hr2 ht hfx HC hne hln hs hm hkB hsr hF hD hRw c1 q1
        go_wp2_with (at_builtin; refine wpList_append_own_at _ rfl _ _ 63 rfl W1.heap.size 72 i0 _ 4 56 Tryz.underlying63 HI.out.1 HI.out.2.1 HI.out.2.2.1 HI.out.2.2.2 rfl (by decide) (.slice av n cv) n xs rfl HOWN.out ⟨w4.heap.size, 0, none⟩ 1 1 [.string s, .int .i64 (fn.at' : Int), .slice a2 m c2, .pointer (some ⟨b2, 0, none⟩)] rfl rfl (cell_four_new _ _ _ _ _ _) (by simp [Value.oneCell']) (by have := HN4.out; unfold maxLen; omega) (by have := HN4.out; omega) (by have := HS4.out; simp; omega) ?_; intro v' w5 hown2 hgrow _ hwhere)
        have hnR : some R ≠ (Value.slice av n cv).ownBlock := fun e => by have := (HGL.out R e.symm).1; omega
        have hln : fs.length = n := HN.out
        have hown2' := hown2
        rw [← hln, HS.out, HMM.out] at hown2'
        have HRow2 : Hid (FnRow W1.heap.size w5 v' (fs ++ [fn])) := FnRow.push (W := w4.alloc (.cells #[.string s, .int .i64 (fn.at' : Int), .slice a2 m c2, .pointer (some ⟨b2, 0, none⟩)] 72)) (by rw [hln]; exact HOWN.out) HELA.out HNB.out HPB.out hown2' hgrow hwhere
        have hfr5 : Fr R W1 w5 := (HF4.out.more HBA.out hlt).grown hgrow (fun k e => (HGL.out k e).1) hlt
        have hrd5 : RdAt w5 R T a1 0 := by
          have h7 := HD4.out.below HBA.out
          exact ⟨(hgrow.block R h7.lt hnR).trans h7.h, h7.le, h7.small, by
            obtain ⟨k1, ev, k2, k3⟩ := h7.ev
            exact ⟨k1, ev, hgrow.cell k2 (fun e => by have := (HGL.out _ e.symm).1; simp at this; omega), k3⟩⟩
        have HFa := hid hfr5
        have HDa := hid hrd5
        have hm : T.size + 1 - rdm R w5 < T.size + 1 - rdm R wr := by
          rw [hrd5.rdm, HRD.out]
          have k1 := tok_at (by' T) a1 (by rw [by_len]; exact hrd5.le)
          rw [by_len] at k1
          have k2 := HTA.out
          rw [by_len] at k2
          have k3 := HFX2.out.1
          have k4 := HFUN.out (by rw [by_len]; exact HDL.out)
          omega
        have HM := hid hm
        clear hnR hln hown2' hown2 hgrow hwhere hfr5 hrd5 hm HBA
        go_roundw
        case rel => exact ⟨fs ++ [fn], a1, HFa, HDa, HRow2, HLn2, HAr2⟩
        case measure => exact HM.out

end Go.Proofs.YtmmgkdcojkmlcaaGreatDoor

namespace Go.Proofs.YtmmgkdcojkmlcaaGreatDoor
open Go.RowKit

/-- a text read, and its names checked -/
def pRes (L : List UInt8) (f : Nat) : Res (List FnT) := match pProg L f [] 0 with
  | .ok fs j => match ckn fs L.length with
    | none => .ok fs j
    | some e => .bad e.1 e.2
  | .bad e at' => .bad e at'
  | .out => .out
/-- how parsed ends -/
def PdR (w : World) (r : Res (List FnT)) (e : Ending) (w' : World) : Prop := Below w.heap.size w w' ∧ match r with
  | .ok fs _ => ∃ a c, e = .returned (.tuple #[.slice a fs.length c, .int .i64 0, .nilIface]) ∧ (fs.length ≤ c ∧ c ≤ maxLen) ∧ FnR w.heap.size w' a fs
  | .bad er at' => e = .returned (.tuple #[.slice none 0 0, .int .i64 (at' : Int), .iface 57 (.int .i64 (er : Int))])
  | .out => False
/-- what stands in parsed -/
structure PdS (C : Nat) (v1 v2 v3 : Value) (w W : World) : Prop where
  s1 : W.heap[C]? = some (.cells #[v1] 63 (0, 0))
  s2 : W.heap[C + 1]? = some (.cells #[v2] 3 (0, 0))
  s3 : W.heap[C + 1 + 1]? = some (.cells #[v3] 31 (0, 0))
  bel : Below w.heap.size w W
  hC : w.heap.size ≤ C
theorem pdS_of (w : World) : PdS w.heap.size (.slice none 0 0) (.int .i64 0) .nilIface w (((w.alloc (.cells #[.slice none 0 0] 63)).alloc (.cells #[.int .i64 0] 3)).alloc (.cells #[.nilIface] 31)) := by
  obtain ⟨V1, h1⟩ : ∃ V, V = w.alloc (.cells #[.slice none 0 0] 63) := ⟨_, rfl⟩
  obtain ⟨V2, h2⟩ : ∃ V, V = V1.alloc (.cells #[.int .i64 0] 3) := ⟨_, rfl⟩
  rw [← h1, ← h2]
  have e1 : V1.heap.size = w.heap.size + 1 := by rw [h1]; simp
  have e2 : V2.heap.size = w.heap.size + 1 + 1 := by rw [h2]; simp [e1]
  have b1 : Below w.heap.size w V1 := by rw [h1]; exact (Below.refl _ _).alloc (Nat.le_refl _) _
  have b2 : Below V1.heap.size V1 V2 := by rw [h2]; exact (Below.refl _ _).alloc (Nat.le_refl _) _
  have b3 : Below V2.heap.size V2 (V2.alloc (.cells #[.nilIface] 31)) := (Below.refl _ _).alloc (Nat.le_refl _) _
  have n1 : V1.heap[w.heap.size]? = some (.cells #[.slice none 0 0] 63 (0, 0)) := by rw [h1]; exact heap_alloc_new w _
  have n2 : V2.heap[w.heap.size + 1]? = some (.cells #[.int .i64 0] 3 (0, 0)) := by rw [← e1, h2]; exact heap_alloc_new V1 _
  exact ⟨(b3.block _ (by omega)).trans ((b2.block _ (by omega)).trans n1), (b3.block _ (by omega)).trans n2, by rw [← e2]; exact heap_alloc_new V2 _, b1.trans ((b2.mono (by omega)).trans (b3.mono (by omega))), Nat.le_refl _⟩
theorem oneS_row {W : World} {g : Nat} {t : TypeId} {v : Value} (h : W.heap[g]? = some (.cells #[v] t (0, 0))) : W.rowIs g t 1 (fun _ => v) := ⟨_, h, rfl, fun i hi => by
    have : i = 0 := by omega
    rw [this]
    rfl⟩
theorem oneS_cell {W : World} {g : Nat} {t : TypeId} {v : Value} (h : W.heap[g]? = some (.cells #[v] t (0, 0))) : W.cell? ⟨g, 0, none⟩ = some v := by simp [World.cell?, h]
theorem oneS_set {W : World} {g : Nat} {t : TypeId} {v : Value} (h : W.heap[g]? = some (.cells #[v] t (0, 0))) (x : Value) : (W.setCell ⟨g, 0, none⟩ x).heap[g]? = some (.cells #[x] t (0, 0)) := by
  obtain ⟨c, hb, hs, hc⟩ := (oneS_row h).set 0 x
  rw [hb]
  congr 2
  apply Array.ext
  · simpa using hs
  · intro i h1 h2
    have hi : i = 0 := by simp at h2; omega
    subst hi
    have := hc 0 (by omega)
    rw [Array.getElem?_eq_getElem h1] at this
    injection this
section
variable {C : Nat} {v1 v2 v3 : Value} {w W W' : World}
theorem PdS.step (h : PdS C v1 v2 v3 w W) (e : Below W.heap.size W W') : PdS C v1 v2 v3 w W' :=
  ⟨(e.block _ (Array.getElem?_eq_some_iff.1 h.s1).1).trans h.s1, (e.block _ (Array.getElem?_eq_some_iff.1 h.s2).1).trans h.s2, (e.block _ (Array.getElem?_eq_some_iff.1 h.s3).1).trans h.s3, h.bel.trans (e.mono h.bel.size), h.hC⟩
theorem PdS.drew (h : PdS C v1 v2 v3 w W) : PdS C v1 v2 v3 w W.drew := ⟨h.s1, h.s2, h.s3, h.bel.trans ⟨rfl, rfl, rfl, Nat.le_refl _, fun _ _ => rfl⟩, h.hC⟩
theorem PdS.put1 (h : PdS C v1 v2 v3 w W) (x : Value) : PdS C x v2 v3 w (W.setCell ⟨C, 0, none⟩ x) := by
  have o1 : ∀ (k : Nat), k ≠ C → (W.setCell ⟨C, 0, none⟩ x).heap[k]? = W.heap[k]? := fun k hk => Below.heap_setCell _ _ _ _ hk
  have hc := h.hC
  exact ⟨oneS_set h.s1 x, (o1 _ (by omega)).trans h.s2, (o1 _ (by omega)).trans h.s3, ⟨h.bel.os, h.bel.tape, h.bel.output, by simpa [World.setCell] using h.bel.size, fun k hk => (o1 k (by omega)).trans (h.bel.block k hk)⟩, hc⟩
theorem PdS.put2 (h : PdS C v1 v2 v3 w W) (x : Value) : PdS C v1 x v3 w (W.setCell ⟨C + 1, 0, none⟩ x) := by
  have o1 : ∀ (k : Nat), k ≠ C + 1 → (W.setCell ⟨C + 1, 0, none⟩ x).heap[k]? = W.heap[k]? := fun k hk => Below.heap_setCell _ _ _ _ hk
  have hc := h.hC
  exact ⟨(o1 _ (by omega)).trans h.s1, oneS_set h.s2 x, (o1 _ (by omega)).trans h.s3, ⟨h.bel.os, h.bel.tape, h.bel.output, by simpa [World.setCell] using h.bel.size, fun k hk => (o1 k (by omega)).trans (h.bel.block k hk)⟩, hc⟩
theorem PdS.put3 (h : PdS C v1 v2 v3 w W) (x : Value) : PdS C v1 v2 x w (W.setCell ⟨C + 1 + 1, 0, none⟩ x) := by
  have o1 : ∀ (k : Nat), k ≠ C + 1 + 1 → (W.setCell ⟨C + 1 + 1, 0, none⟩ x).heap[k]? = W.heap[k]? := fun k hk => Below.heap_setCell _ _ _ _ hk
  have hc := h.hC
  exact ⟨(o1 _ (by omega)).trans h.s1, (o1 _ (by omega)).trans h.s2, oneS_set h.s3 x, ⟨h.bel.os, h.bel.tape, h.bel.output, by simpa [World.setCell] using h.bel.size, fun k hk => (o1 k (by omega)).trans (h.bel.block k hk)⟩, hc⟩
end
theorem FnR.kept {lo lo' : Nat} {w w' : World} {a : Option Addr} {fs : List FnT} (h : FnR lo w a fs) (hl : lo' ≤ lo) (hk : ∀ b, lo ≤ b → b < w.heap.size → w'.heap[b]? = w.heap[b]?) : FnR lo' w' a fs := fun i x hx => by
  obtain ⟨k, a2, c, b, h1, h2, h3, h4, h5, h6, h7, h8⟩ := h i x hx
  have hb := hk k h2 (World.block_lt_of_cell? _ _ h3)
  exact ⟨k, a2, c, b, h1, Nat.le_trans hl h2, (World.cell?_of_block (a := ⟨k, i * 4, none⟩) hb).trans h3, (World.cell?_of_block (a := ⟨k, i * 4 + 1, none⟩) hb).trans h4, (World.cell?_of_block (a := ⟨k, i * 4 + 2, none⟩) hb).trans h5, (World.cell?_of_block (a := ⟨k, i * 4 + 3, none⟩) hb).trans h6, NmB.keep (B := fun x => lo ≤ x) (B' := fun x => lo' ≤ x) h7 (fun b hb hl' => ⟨Nat.le_trans hl hb, hk b hb hl'⟩), (h8.keep hk).mono hl⟩

set_option maxRecDepth 100000 in
set_option maxHeartbeats 2000000 in
theorem parsed_any (T : ByteArray) (f : Nat) (w : World) (hT : T.size ≤ 4000) (hEv : EvW w) (r : Res (List FnT)) (hr : r = pRes (by' T) f) (hro : r ≠ .out) :
    Calls Tryz.prog 20 #[.string T] w (PdR w r) := by
  have hmf : ∀ (fn : Fn) (first cap : Array Value) (w : World), (Instr.makeFunc fn first cap).run Tryz.prog w = .ok (.func fn first cap) w := fun _ _ _ _ => rfl
  obtain ⟨q, hq⟩ : ∃ q, q = pProg (by' T) f [] 0 := ⟨_, rfl⟩
  have hqo : q ≠ .out := fun e => by rw [e] at hq; unfold pRes at hr; rw [← hq] at hr; exact hro hr
  have HW0 := hid (pdS_of w)
  have HRD := hid (readX T f (((w.alloc (.cells #[.slice none 0 0] 63)).alloc (.cells #[.int .i64 0] 3)).alloc (.cells #[.nilIface] 31)) hT (hEv.below (HW0.out.bel)) q hq hqo)
  obtain ⟨W0, hW0⟩ : ∃ W0, W0 = ((w.alloc (.cells #[.slice none 0 0] 63)).alloc (.cells #[.int .i64 0] 3)).alloc (.cells #[.nilIface] 31) := ⟨_, rfl⟩
  rw [← hW0] at HW0 HRD
  obtain ⟨C, hC⟩ : ∃ C, C = w.heap.size := ⟨_, rfl⟩
  rw [← hC] at HW0
  have HCC := hid hC
  have HR := hid hr
  have HQ := hid hq
  have HT := hid hT
  have HWD : Hid (∀ e w', PdR w r e w' → PdR w r e w') := fun _ _ h => h
  clear hEv hro hqo hT hr hq
  go_enter_defers Tryz.func20, Tryz.ntmps20
  go_wp2_with fail
  rw [← hW0]
  refine HRD.out.mono ?_
  intro e w1 he
  obtain ⟨hb1, he⟩ := he
  have HW1 := hid (HW0.out.step hb1)
  rw [← hC]
  cases hqq : q with
  | out => rw [hqq] at he; exact he.elim
  | bad er at' =>
    rw [hqq] at he
    have he' : e = pncF at' er := he
    subst he'
    have hre : r = .bad er at' := by
      have h1 := HR.out
      unfold pRes at h1
      rw [← HQ.out, hqq] at h1
      exact h1
    subst hre
    have HK1 := oneS_cell HW1.out.s1
    have HK2 := oneS_cell HW1.out.s2
    have HK3 := oneS_cell HW1.out.s3
    refine leaves_cons (f := 33) (args := #[.pointer (some ⟨C, 0, none⟩), .pointer (some ⟨C + 1, 0, none⟩), .pointer (some ⟨C + 1 + 1, 0, none⟩)]) (by simp) (by simp [go_sem]) ?_
    refine (catchS_fault C (C + 1) (C + 1 + 1) at' er _ _ _ w1 HK1 HK2 HK3 ((oneS_row HW1.out.s1).frozen 0) ((oneS_row HW1.out.s2).frozen 0) ((oneS_row HW1.out.s3).frozen 0) (by omega) (by omega) (by omega)).mono ?_
    rintro e u' w4 ⟨rfl, rfl, hw4⟩
    have HD4 : Hid (PdS C (.slice none 0 0) (.int .i64 (at' : Int)) (.iface 57 (.int .i64 (er : Int))) w w4) := by
      unfold Hid
      rw [hw4]
      exact ((((HW1.out.step ((Below.refl _ _).alloc (Nat.le_refl _) _)).drew).put1 _).put2 _).put3 _
    have e1 : w4.cell? ⟨C, 0, none⟩ = some (.slice none 0 0) := oneS_cell HD4.out.s1
    have e2 : w4.cell? ⟨C + 1, 0, none⟩ = some (.int .i64 (at' : Int)) := oneS_cell HD4.out.s2
    have e3 : w4.cell? ⟨C + 1 + 1, 0, none⟩ = some (.iface 57 (.int .i64 (er : Int))) := oneS_cell HD4.out.s3
    have hE := HWD.out (.returned (.tuple #[.slice none 0 0, .int .i64 (at' : Int), .iface 57 (.int .i64 (er : Int))])) w4 ⟨HD4.out.bel, rfl⟩
    clear hw4 HD4 HW1 HWD HK1 HK2 HK3
    simp [Leaves, settle, results, Tryz.results20, go_sem, e1, e2, e3]
    exact hE
  | ok fs j =>
    rw [hqq] at he
    obtain ⟨a, c, rfl, hcc, hF⟩ := he
    have hal := pProg_al (by' T) (by rw [by_len]; exact HT.out) f [] 0 (by simp) (Nat.le_refl _) (Nat.zero_le _)
    rw [← HQ.out, hqq] at hal
    obtain ⟨⟨_, hj⟩, hfw, hfl⟩ := hal
    have hfl4 : fs.length ≤ 4000 := by have := HT.out; rw [by_len] at hj; omega
    have hre : r = match ckn fs T.size with
        | none => .ok fs j
        | some e => .bad e.1 e.2 := by
      have h1 := HR.out
      unfold pRes at h1
      rw [← HQ.out, hqq] at h1
      rw [by_len] at h1
      exact h1
    have k1 := oneS_cell HW1.out.s1
    have k2 := oneS_cell HW1.out.s2
    have k3 := oneS_cell HW1.out.s3
    have m1 := (oneS_row HW1.out.s1).frozen
    have m2 := (oneS_row HW1.out.s2).frozen
    have m3 := (oneS_row HW1.out.s3).frozen
    obtain ⟨w2, hw2⟩ : ∃ w2, w2 = w1.setCell ⟨C, 0, none⟩ (.slice a fs.length c) := ⟨_, rfl⟩
    have HW2 : Hid (PdS C (.slice a fs.length c) (.int .i64 0) .nilIface w w2) := by unfold Hid; rw [hw2]; exact HW1.out.put1 _
    have hCw : C < W0.heap.size := (Array.getElem?_eq_some_iff.1 HW0.out.s1).1
    have hsz2 : w2.heap.size = w1.heap.size := by rw [hw2]; simp [World.setCell]
    have HF2 : Hid (FnR W0.heap.size w2 a fs) := FnR.kept hF (Nat.le_refl _) (fun b hb _ => by rw [hw2]; exact Below.heap_setCell _ _ _ _ (by show b ≠ C; omega))
    have HCN := hid (checkNames_any T fs a c w2 (FnR.kept HF2.out (Nat.zero_le _) (fun _ _ _ => rfl)) hcc.1 hfl4 (fun g hg => (hfw g hg).ok) HT.out)
    have HRE := hid hre
    have HCP := hid hcc
    have HSZ : Hid (C + 1 + 1 < W0.heap.size ∧ w.heap.size ≤ W0.heap.size) := ⟨(Array.getElem?_eq_some_iff.1 HW0.out.s3).1, HW0.out.bel.size⟩
    obtain ⟨n, hn⟩ : ∃ n, n = fs.length := ⟨_, rfl⟩
    have HN := hid hn
    rw [← hn] at HW2 HCN hw2 ⊢
    clear hre hqq hF hb1 hcc hfw hfl hj hfl4 HRD hW0 hC HQ HR hCw hsz2 hn
    go_wp2_with fail
    rw [← hw2]
    clear hw2 k1 k2 k3 m1 m2 m3
    refine HCN.out.mono ?_
    intro e w3 he
    obtain ⟨hb3, he⟩ := he
    have HW3 := hid (HW2.out.step hb3)
    have HF3 : Hid (FnR W0.heap.size w3 a fs) := FnR.kept HF2.out (Nat.le_refl _) (fun b _ hl => hb3.block b hl)
    clear HCN hb3 HF2 HW2 HW1
    cases hck : ckn fs T.size with
    | some y =>
      rw [hck] at he
      have he' : e = pncF y.2 y.1 := he
      subst he'
      have hr2 := HRE.out
      rw [hck] at hr2
      have hr3 : r = .bad y.1 y.2 := hr2
      subst hr3
      have HK1 := oneS_cell HW3.out.s1
      have HK2 := oneS_cell HW3.out.s2
      have HK3 := oneS_cell HW3.out.s3
      refine leaves_cons (f := 33) (args := #[.pointer (some ⟨C, 0, none⟩), .pointer (some ⟨C + 1, 0, none⟩), .pointer (some ⟨C + 1 + 1, 0, none⟩)]) (by simp) (by simp [go_sem]) ?_
      refine (catchS_fault C (C + 1) (C + 1 + 1) y.2 y.1 _ _ _ w3 HK1 HK2 HK3 ((oneS_row HW3.out.s1).frozen 0) ((oneS_row HW3.out.s2).frozen 0) ((oneS_row HW3.out.s3).frozen 0) (by omega) (by omega) (by omega)).mono ?_
      rintro e u' w4 ⟨rfl, rfl, hw4⟩
      have HD4 : Hid (PdS C (.slice none 0 0) (.int .i64 (y.2 : Int)) (.iface 57 (.int .i64 (y.1 : Int))) w w4) := by
        unfold Hid
        rw [hw4]
        exact ((((HW3.out.step ((Below.refl _ _).alloc (Nat.le_refl _) _)).drew).put1 _).put2 _).put3 _
      have e1 : w4.cell? ⟨C, 0, none⟩ = some (.slice none 0 0) := oneS_cell HD4.out.s1
      have e2 : w4.cell? ⟨C + 1, 0, none⟩ = some (.int .i64 (y.2 : Int)) := oneS_cell HD4.out.s2
      have e3 : w4.cell? ⟨C + 1 + 1, 0, none⟩ = some (.iface 57 (.int .i64 (y.1 : Int))) := oneS_cell HD4.out.s3
      have hE := HWD.out (.returned (.tuple #[.slice none 0 0, .int .i64 (y.2 : Int), .iface 57 (.int .i64 (y.1 : Int))])) w4 ⟨HD4.out.bel, rfl⟩
      clear hw4 HD4 HW3 HWD HK1 HK2 HK3
      simp [Leaves, settle, results, Tryz.results20, go_sem, e1, e2, e3]
      exact hE
    | none =>
      rw [hck] at he
      obtain ⟨v, rfl⟩ := he
      have hr2 := HRE.out
      rw [hck] at hr2
      have hr3 : r = .ok fs j := hr2
      subst hr3
      clear hr2 HRE hck
      have k1 := oneS_cell HW3.out.s1
      have k2 := oneS_cell HW3.out.s2
      have k3 := oneS_cell HW3.out.s3
      have m1 := (oneS_row HW3.out.s1).frozen
      have m2 : ∀ i, w3.frozen? ⟨C + 1, i, none⟩ = false := (oneS_row HW3.out.s2).frozen
      have m3 : ∀ i, w3.frozen? ⟨C + 1 + 1, i, none⟩ = false := (oneS_row HW3.out.s3).frozen
      obtain ⟨V, hV⟩ : ∃ V, V = ((w3.setCell ⟨C, 0, none⟩ (.slice a n c)).setCell ⟨C + 1, 0, none⟩ (.int .i64 0)).setCell ⟨C + 1 + 1, 0, none⟩ .nilIface := ⟨_, rfl⟩
      have HD4 : Hid (PdS C (.slice a n c) (.int .i64 0) .nilIface w V) := by unfold Hid; rw [hV]; exact ((HW3.out.put1 _).put2 _).put3 _
      have HFV : Hid (FnR w.heap.size V a fs) := FnR.kept HF3.out HSZ.out.2 (fun b hb _ => by
        have := HSZ.out.1
        rw [hV, Below.heap_setCell _ _ _ _ (by show b ≠ C + 1 + 1; omega), Below.heap_setCell _ _ _ _ (by show b ≠ C + 1; omega), Below.heap_setCell _ _ _ _ (by show b ≠ C; omega)])
      go_wp2_with fail
      rw [← hV]
      refine leaves_cons (f := 33) (args := #[.pointer (some ⟨C, 0, none⟩), .pointer (some ⟨C + 1, 0, none⟩), .pointer (some ⟨C + 1 + 1, 0, none⟩)]) (by simp) (by simp [go_sem]) ?_
      refine (catchS_idle ⟨C, 0, none⟩ ⟨C + 1, 0, none⟩ ⟨C + 1 + 1, 0, none⟩ V).mono ?_
      rintro e u' w4 ⟨rfl, rfl, hw4⟩
      rw [hw4]
      have e1 : V.cell? ⟨C, 0, none⟩ = some (.slice a n c) := oneS_cell HD4.out.s1
      have e2 : V.cell? ⟨C + 1, 0, none⟩ = some (.int .i64 0) := oneS_cell HD4.out.s2
      have e3 : V.cell? ⟨C + 1 + 1, 0, none⟩ = some .nilIface := oneS_cell HD4.out.s3
      have hE := HWD.out (.returned (.tuple #[.slice a n c, .int .i64 0, .nilIface])) V ⟨HD4.out.bel, a, c, by rw [HN.out], HCP.out, HFV.out⟩
      clear hV hw4 HD4 HW3 HWD k1 k2 k3 m1 m2 m3 HFV HF3
      simp [Leaves, settle, results, Tryz.results20, go_sem, e1, e2, e3]
      exact hE

end Go.Proofs.YtmmgkdcojkmlcaaGreatDoor

namespace Go.Proofs.YtmmgkdcojkmlcaaGreatDoor
open Go.RowKit

def cat (cs : List (Int × Int)) (j : Nat) : Int × Int := cs.getD j (0, 0)
/-- the place of a cell; -1: there is none -/
def finz (cs : List (Int × Int)) (x : Int) : Int := match cs.findIdx? (fun c => c.1 == x) with
  | some i => i
  | none => -1
/-- the reference's machine -/
structure RM where
  cs : List (Int × Int)
  pc : Int
  fp : Int
  ap : Int
  rv : Int
  at' : Nat → Int
  is' : Nat → Int
  slot : Nat
  err : Int
end Go.Proofs.YtmmgkdcojkmlcaaGreatDoor
