/- Programs as text: tokens by what is left of a text; more fuel. Programs as text: how many levels an expression takes when it is written; what was read takes no more. -/
import Derived.Test.YthpkcageimhgaaaDoorPrU
namespace Go.Proofs.YthpkcageimhgaaaDoor

/-- the same, or nothing yet -/
def Res.Le {α : Type} (r s : Res α) : Prop := r = .out ∨ s = r
theorem Res.Le.refl {α : Type} (r : Res α) : r.Le r := .inr rfl
theorem Res.Le.bind {α β : Type} {r s : Res α} {f g : α → Nat → Res β} (h : r.Le s) (hf : ∀ x j, (f x j).Le (g x j)) : (r.bind f).Le (s.bind g) := by
  rcases h with rfl | rfl
  · exact .inl rfl
  · cases s with
    | ok x j => exact hf x j
    | bad e a => exact .inr rfl
    | out => exact .inr rfl
theorem Res.Le.ite {α : Type} {c : Prop} [Decidable c] {r s r' s' : Res α} (h : r.Le s) (h' : r'.Le s') : (if c then r else r').Le (if c then s else s') := by
  by_cases e : c
  · rw [if_pos e, if_pos e]; exact h
  · rw [if_neg e, if_neg e]; exact h'
theorem p_up (L : List UInt8) : ∀ (f : Nat), (∀ a l, (pExpr L f a l).Le (pExpr L (f + 1) a l)) ∧ (∀ a l, (pSum L f a l).Le (pSum L (f + 1) a l)) ∧ (∀ x a l, (pSumL L f x a l).Le (pSumL L (f + 1) x a l)) ∧ (∀ a l, (pProd L f a l).Le (pProd L (f + 1) a l)) ∧
    (∀ x a l, (pProdL L f x a l).Le (pProdL L (f + 1) x a l)) ∧ (∀ a l, (pPart L f a l).Le (pPart L (f + 1) a l)) ∧ (∀ a l, (pList L f a l).Le (pList L (f + 1) a l)) ∧ (∀ xs a l, (pArgs L f xs a l).Le (pArgs L (f + 1) xs a l))
  | 0 => ⟨fun _ _ => .inl (by rw [pExpr]), fun _ _ => .inl (by rw [pSum]), fun _ _ _ => .inl (by rw [pSumL]), fun _ _ => .inl (by rw [pProd]), fun _ _ _ => .inl (by rw [pProdL]), fun _ _ => .inl (by rw [pPart]), fun _ _ => .inl (by rw [pList]), fun _ _ _ => .inl (by rw [pArgs])⟩
  | f + 1 => by
    obtain ⟨hE, hS, hSL, hP, hPL, hPt, hLs, hA⟩ := p_up L f
    refine ⟨fun a l => ?_, fun a l => ?_, fun x a l => ?_, fun a l => ?_, fun x a l => ?_, fun a l => ?_, fun a l => ?_, fun xs a l => ?_⟩
    · rw [pExpr, pExpr]
      refine .ite (.bind (.refl _) fun _ a1 => .bind (.refl _) fun _ a2 => .bind (.refl _) fun _ a3 => .bind (hE _ _) fun _ a4 => .bind (.refl _) fun _ a5 => .bind (hE _ _) fun _ _ => .refl _) ?_
      refine .ite (.bind (.refl _) fun _ a1 => .bind (hS _ _) fun _ a2 => .bind (.refl _) fun _ a3 => .bind (hS _ _) fun _ a4 => .bind (.refl _) fun _ a5 => .bind (hE _ _) fun _ _ => .refl _) ?_
      refine .ite (.bind (.refl _) fun _ a1 => .bind (hE _ _) fun _ a2 => .bind (.refl _) fun _ a3 => .bind (hE _ _) fun _ a4 => .bind (.refl _) fun _ a5 => .bind (hE _ _) fun _ _ => .refl _) ?_
      exact .bind (hS _ _) fun _ _ => .ite (.bind (hS _ _) fun _ _ => .refl _) (.refl _)
    · rw [pSum, pSum]; exact .bind (hP _ _) fun _ _ => hSL _ _ _
    · rw [pSumL, pSumL]; exact .ite (.bind (hP _ _) fun _ _ => hSL _ _ _) (.ite (.bind (hP _ _) fun _ _ => hSL _ _ _) (.refl _))
    · rw [pProd, pProd]; exact .bind (hPt _ _) fun _ _ => hPL _ _ _
    · rw [pProdL, pProdL]; exact .ite (.bind (hPt _ _) fun _ _ => hPL _ _ _) (.ite (.bind (hPt _ _) fun _ _ => hPL _ _ _) (.refl _))
    · rw [pPart, pPart]
      refine .ite (.bind (.refl _) fun _ a1 => .ite (.bind (hLs _ _) fun _ _ => .refl _) (.refl _)) ?_
      refine .ite (.bind (.refl _) fun _ a1 => .bind (hE _ _) fun _ _ => .refl _) ?_
      exact .ite (.bind (.refl _) fun _ a1 => .bind (hPt _ _) fun _ _ => .refl _) (.refl _)
    · rw [pList, pList]; exact .bind (.refl _) fun _ a1 => .bind (.ite (.refl _) (.bind (hE _ _) fun _ _ => hA _ _ _)) fun _ _ => .refl _
    · rw [pArgs, pArgs]; exact .ite (.bind (hE _ _) fun _ _ => hA _ _ _) (.refl _)
/-- a family that gives more and more -/
def Up {α : Type} (p : Nat → Res α) : Prop := ∀ f, (p f).Le (p (f + 1))
/-- with enough fuel it gives this -/
def Gt {α : Type} (p : Nat → Res α) (x : α) (j : Nat) : Prop := ∃ f0, ∀ f, f0 ≤ f → p f = .ok x j
theorem Up.from {α : Type} {p : Nat → Res α} (h : Up p) {f0 : Nat} {x : α} {j : Nat} (h0 : p f0 = .ok x j) : ∀ k, p (f0 + k) = .ok x j
  | 0 => h0
  | k + 1 => by
    rcases h (f0 + k) with e | e
    · rw [Up.from h h0 k] at e; cases e
    · exact (show p (f0 + k + 1) = p (f0 + k) from e).trans (Up.from h h0 k)
theorem Up.gt {α : Type} {p : Nat → Res α} (h : Up p) {f0 : Nat} {x : α} {j : Nat} (h0 : p f0 = .ok x j) : Gt p x j := ⟨f0, fun f hf => by
  obtain ⟨k, rfl⟩ := Nat.exists_eq_add_of_le hf
  exact h.from h0 k⟩
theorem Up.is {α : Type} {p : Nat → Res α} (h : Up p) {f : Nat} {x : α} {j : Nat} (hg : Gt p x j) (hn : p f ≠ .out) : p f = .ok x j := by
  obtain ⟨f0, hf0⟩ := hg
  by_cases hle : f0 ≤ f
  · exact hf0 f hle
  · have : ∀ k, p (f + k) = p f := fun k => by
      induction k with
      | zero => rfl
      | succ k ih =>
        rcases h (f + k) with e | e
        · exact absurd (ih.symm.trans e) hn
        · exact (show p (f + k + 1) = p (f + k) from e).trans ih
    rw [← this (f0 - f), show f + (f0 - f) = f0 from by omega]
    exact hf0 f0 (Nat.le_refl _)

/-- the first token of what is left: its kind, its text; what is left behind it -/
def kd (r : List UInt8) : Nat := (tokR 0 (blank r)).kind
def tx (r : List UInt8) : List UInt8 := (tokR 0 (blank r)).text
def nxs (r : List UInt8) : List UInt8 := (blank r).drop (tx r).length
theorem tokR_any (N : Nat) (r : List UInt8) : (tokR N r).kind = (tokR 0 r).kind ∧ (tokR N r).text = (tokR 0 r).text ∧ (tokR N r).at' = N - r.length := by
  unfold tokR
  by_cases h : r = []
  · simp [h]
  · rw [if_neg h, if_neg h]
    split
    · exact ⟨rfl, rfl, rfl⟩
    · exact ⟨rfl, rfl, rfl⟩
theorem dw_drop (p : UInt8 → Bool) : ∀ r : List UInt8, r.dropWhile p = r.drop (r.takeWhile p).length
  | [] => rfl
  | c :: r => by
    by_cases h : p c = true
    · rw [List.dropWhile_cons_of_pos h, List.takeWhile_cons_of_pos h, dw_drop p r]; rfl
    · rw [List.dropWhile_cons_of_neg h, List.takeWhile_cons_of_neg h]; rfl
theorem blank_drop : ∀ (n : Nat) (l : List UInt8), l.length ≤ n → ∃ k, blank l = l.drop k
  | _, [], _ => ⟨0, by rw [blank]; rfl⟩
  | 0, c :: r, h => by simp at h
  | n + 1, c :: r, h => by
    rw [blank]
    simp at h
    split
    · obtain ⟨k, hk⟩ := blank_drop n r h
      exact ⟨k + 1, by simpa using hk⟩
    · split
      · have h2 := (List.dropWhile_sublist (l := r) (· != 10)).length_le
        obtain ⟨k, hk⟩ := blank_drop n (r.dropWhile (· != 10)) (by omega)
        have h5 : ∃ j, r.dropWhile (· != 10) = r.drop j := ⟨(r.takeWhile (· != 10)).length, dw_drop _ r⟩
        obtain ⟨j, hj⟩ := h5
        rw [hj] at hk
        refine ⟨j + k + 1, ?_⟩
        rw [hj, hk, List.drop_drop]
        rfl
      · exact ⟨0, rfl⟩
/-- where a text's rest begins -/
def Suf (L : List UInt8) (a : Nat) (r : List UInt8) : Prop := a ≤ L.length ∧ L.drop a = r
theorem Suf.kind {L : List UInt8} {a : Nat} {r : List UInt8} (h : Suf L a r) : (tok L a).kind = kd r := by
  unfold tok kd; rw [h.2]; exact (tokR_any _ _).1
theorem Suf.text {L : List UInt8} {a : Nat} {r : List UInt8} (h : Suf L a r) : (tok L a).text = tx r := by
  unfold tok tx; rw [h.2]; exact (tokR_any _ _).2.1
theorem Suf.nx {L : List UInt8} {a : Nat} {r : List UInt8} (h : Suf L a r) : Suf L (tok L a).nx (nxs r) := by
  obtain ⟨h1, h2⟩ := h
  have h5 := (tok_at L a h1).2.1
  refine ⟨h5, ?_⟩
  obtain ⟨k, hk⟩ := blank_drop _ (L.drop a) (Nat.le_refl _)
  unfold Tok.nx nxs tx
  unfold tok
  rw [(tokR_any L.length (blank (L.drop a))).2.1, (tokR_any L.length (blank (L.drop a))).2.2, ← h2, hk, List.drop_drop, List.drop_drop, List.length_drop]
  by_cases e : a + k ≤ L.length
  · congr 1
    omega
  · rw [List.drop_eq_nil_of_le, List.drop_eq_nil_of_le]
    · omega
    · omega
theorem Suf.take {L : List UInt8} {a k : Nat} {r : List UInt8} (h : Suf L a r) (hk : kd r = k) : pTake L k a = .ok (tok L a) (tok L a).nx := by
  unfold pTake; rw [h.kind, if_pos hk]
theorem Suf.enter {L : List UInt8} {a k l : Nat} {r : List UInt8} (h : Suf L a r) (hk : kd r = k) (hl : l ≠ 64) : pEnter L k a l = .ok () (tok L a).nx := by
  unfold pEnter; rw [h.take hk]; show (if l = 64 then _ else _) = _; rw [if_neg hl]
theorem Suf.name {L : List UInt8} {a : Nat} {r : List UInt8} (h : Suf L a r) (hk : kd r = 2) (hl : (tx r).length ≤ 16) : ∃ at', pName L a = .ok (tx r, at') (tok L a).nx := by
  refine ⟨(tok L a).at', ?_⟩
  unfold pName; rw [h.take hk]
  show (if 16 < (tok L a).text.length then _ else _) = _
  rw [h.text, if_neg (by omega)]
theorem Suf.num {L : List UInt8} {a : Nat} {r : List UInt8} (h : Suf L a r) (hk : kd r = 3) (hl : numV (tx r) ≤ 9223372036854775807) : pNum L a = .ok (.node 0 [] 0 (numV (tx r)) []) (tok L a).nx := by
  unfold pNum; rw [h.take hk]
  show (if 9223372036854775807 < numV (tok L a).text then _ else _) = _
  rw [h.text, if_neg (by omega)]

theorem blankA (r : List UInt8) : blank (32 :: r) = blank r := by rw [blank]; rfl
theorem blank_nl (r : List UInt8) : blank (10 :: r) = blank r := by rw [blank]; rfl
theorem kd_sp (r : List UInt8) : kd (32 :: r) = kd r ∧ tx (32 :: r) = tx r ∧ nxs (32 :: r) = nxs r := by
  unfold kd tx nxs tx; rw [blankA]; exact ⟨rfl, rfl, rfl⟩
theorem kd_nl (r : List UInt8) : kd (10 :: r) = kd r ∧ tx (10 :: r) = tx r ∧ nxs (10 :: r) = nxs r := by
  unfold kd tx nxs tx; rw [blank_nl]; exact ⟨rfl, rfl, rfl⟩
/-- no word goes on -/
def FrA (r : List UInt8) : Prop := ∀ c r', r = c :: r' → inWd c = false
theorem inWd_blank {c : UInt8} (h : inWd c = true) : (c == 32 || c == 9 || c == 10) = false ∧ (c == 35) = false := by
  have h1 : ∀ d : UInt8, inWd d = false → (c == d) = false := fun d hd => by
    rw [beq_eq_false_iff_ne]
    rintro rfl
    rw [h] at hd
    cases hd
  rw [h1 32 (by decide), h1 9 (by decide), h1 10 (by decide), h1 35 (by decide)]
  exact ⟨rfl, rfl⟩
theorem kd_word {w r : List UInt8} (h0 : w ≠ []) (hw : w.all inWd = true) (hr : FrA r) : kd (w ++ r) = wkd w ∧ tx (w ++ r) = w ∧ nxs (w ++ r) = r := by
  have hb : blank (w ++ r) = w ++ r := by
    cases w with
    | nil => exact absurd rfl h0
    | cons c w =>
      have hc : inWd c = true := by simp at hw; exact hw.1
      rw [List.cons_append, blank, if_neg (by rw [(inWd_blank hc).1]; simp), if_neg (by rw [(inWd_blank hc).2]; simp)]
  have ht : (w ++ r).takeWhile inWd = w := by
    rw [List.takeWhile_append_of_pos (fun c hc => (List.all_eq_true.1 hw) c hc)]
    cases r with
    | nil => simp
    | cons c r => rw [List.takeWhile_cons, hr c r rfl]; simp
  unfold kd nxs tx
  unfold tokR
  rw [hb, if_neg (by simp [h0]), ht, if_pos h0]
  exact ⟨rfl, rfl, by simp⟩

end Go.Proofs.YthpkcageimhgaaaDoor

namespace Go.Proofs.YthpkcageimhgaaaDoor

/-- one level more, where brackets stand -/
def px (h m v : Nat) : Nat := if h < m then v + 1 else v
theorem px_le (h m v : Nat) : v ≤ px h m v := by unfold px; split <;> omega
theorem px_mono (h v : Nat) {m m' : Nat} (e : m ≤ m') : px h m v ≤ px h m' v := by unfold px; split <;> split <;> omega
theorem px_hi {h m v : Nat} (e : m ≤ h) : px h m v = v := by unfold px; rw [if_neg (by omega)]
def lkA (ks : List (Nat × Nat)) (i m : Nat) : Nat := match ks[i]? with
  | some x => px x.1 m x.2
  | none => 0
def lmax : List (Nat × Nat) → Nat
  | [] => 0
  | x :: r => max x.2 (lmax r)
def lvK (k : Nat) (ks : List (Nat × Nat)) : Nat :=
  if k < 2 then 0 else if k = 2 then 1 + lmax ks else if k = 3 then 1 + lkA ks 0 4 else if k = 9 then 1 + max (lkA ks 0 0) (lkA ks 1 0) else if k = 10 then 1 + max (max (lkA ks 0 2) (lkA ks 1 2)) (lkA ks 2 0)
  else if k = 11 then 1 + max (max (lkA ks 0 0) (lkA ks 1 0)) (lkA ks 2 0) else if k = 8 then max (lkA ks 0 2) (lkA ks 1 2) else max (lkA ks 0 (hld k)) (lkA ks 1 (hld k + 1))
mutual
/-- how many levels it takes -/
def lvT : Tr → Nat
  | .node k _ _ _ kids => lvK k (lvTs kids)
def lvTs : List Tr → List (Nat × Nat)
  | [] => []
  | t :: r => (hld (knd t), lvT t) :: lvTs r
end
/-- how tightly it holds -/
def hT (t : Tr) : Nat := hld (knd t)
theorem lvTs_max : ∀ {ts : List Tr} {N : Nat}, (∀ x, x ∈ ts → lvT x ≤ N) → lmax (lvTs ts) ≤ N
  | [], _, _ => by rw [lvTs]; exact Nat.zero_le _
  | t :: r, N, h => by
    rw [lvTs, lmax]
    have h1 := h t (by simp)
    have h2 := lvTs_max (ts := r) (N := N) fun x hx => h x (by simp [hx])
    exact Nat.max_le.2 ⟨h1, h2⟩

def Res.All {α : Type} (P : α → Prop) : Res α → Prop
  | .ok x _ => P x
  | _ => True
theorem Res.All.bind {α β : Type} {P : α → Prop} {Q : β → Prop} {r : Res α} {f : α → Nat → Res β} (h : r.All P) (hf : ∀ x j, P x → (f x j).All Q) : (r.bind f).All Q := by
  cases r with
  | ok x j => exact hf x j h
  | bad e a => trivial
  | out => trivial
theorem Res.All.any {α : Type} (r : Res α) : r.All (fun _ => True) := by cases r <;> trivial
theorem Res.All.ite {α : Type} {c : Prop} [Decidable c] {P : α → Prop} {r s : Res α} (h : r.All P) (h' : s.All P) : (if c then r else s).All P := by
  by_cases e : c
  · rw [if_pos e]; exact h
  · rw [if_neg e]; exact h'
theorem pEnter_all (L : List UInt8) (k a l : Nat) : (pEnter L k a l).All (fun _ => l ≠ 64) := by
  unfold pEnter
  refine .bind (.any _) fun t j _ => ?_
  by_cases h : l = 64
  · rw [if_pos h]; trivial
  · rw [if_neg h]; exact h
theorem pNum_all (L : List UInt8) (a : Nat) : (pNum L a).All (fun t => lvT t = 0 ∧ hT t = 4) := by
  unfold pNum
  refine .bind (.any _) fun t j _ => ?_
  refine .ite trivial ?_
  show lvT _ = 0 ∧ hT _ = 4
  rw [lvT, lvTs]
  exact ⟨rfl, rfl⟩

/-- what has been read at a level -/
def LvE (l : Nat) (t : Tr) : Prop := l + lvT t ≤ 64
def LvM (m l : Nat) (t : Tr) : Prop := l + px (hT t) m (lvT t) ≤ 64
theorem LvM.e {m l : Nat} {t : Tr} (h : LvM m l t) : LvE l t := by unfold LvM at h; unfold LvE; have := px_le (hT t) m (lvT t); omega
theorem LvM.mono {m m' l : Nat} {t : Tr} (h : LvM m l t) (e : m' ≤ m) : LvM m' l t := by unfold LvM at *; have := px_mono (hT t) (lvT t) e; omega
theorem two_lv (k : Nat) (a b : Tr) : lvT (.node k [] 0 0 [a, b]) = lvK k [(hT a, lvT a), (hT b, lvT b)] := by rw [lvT, lvTs, lvTs, lvTs]; rfl
theorem p_lv (L : List UInt8) : ∀ (f : Nat), (∀ a l, l ≤ 64 → (pExpr L f a l).All (LvE l)) ∧ (∀ a l, l ≤ 64 → (pSum L f a l).All (LvM 2 l)) ∧ (∀ x a l, l ≤ 64 → LvM 2 l x → (pSumL L f x a l).All (LvM 2 l)) ∧ (∀ a l, l ≤ 64 → (pProd L f a l).All (LvM 3 l)) ∧
    (∀ x a l, l ≤ 64 → LvM 3 l x → (pProdL L f x a l).All (LvM 3 l)) ∧ (∀ a l, l ≤ 64 → (pPart L f a l).All (LvM 4 l)) ∧ (∀ a l, l ≤ 64 → (pList L f a l).All (fun xs => l < 64 ∧ ∀ x, x ∈ xs → LvE (l + 1) x)) ∧ (∀ xs a l, l ≤ 64 → (∀ x, x ∈ xs → LvE l x) → (pArgs L f xs a l).All (fun xs => ∀ x, x ∈ xs → LvE l x))
  | 0 => ⟨fun _ _ _ => by rw [pExpr]; trivial, fun _ _ _ => by rw [pSum]; trivial, fun _ _ _ _ _ => by rw [pSumL]; trivial, fun _ _ _ => by rw [pProd]; trivial, fun _ _ _ _ _ => by rw [pProdL]; trivial, fun _ _ _ => by rw [pPart]; trivial, fun _ _ _ => by rw [pList]; trivial, fun _ _ _ _ _ => by rw [pArgs]; trivial⟩
  | f + 1 => by
    obtain ⟨hE, hS, hSL, hP, hPL, hPt, hLs, hA⟩ := p_lv L f
    refine ⟨fun a l hl => ?_, fun a l hl => ?_, fun x a l hl hx => ?_, fun a l hl => ?_, fun x a l hl hx => ?_, fun a l hl => ?_, fun a l hl => ?_, fun xs a l hl hx => ?_⟩
    · rw [pExpr]
      refine .ite (.bind (pEnter_all ..) fun _ a1 h64 => .bind (.any _) fun nm a2 _ => .bind (.any _) fun _ a3 _ => .bind (hE _ _ (by omega)) fun x a4 hx => .bind (.any _) fun _ a5 _ => .bind (hE _ _ (by omega)) fun y a6 hy => ?_) ?_
      · show l + lvT _ ≤ 64
        rw [lvT, lvTs, lvTs, lvTs]
        show l + (1 + max (px (hT x) 0 (lvT x)) (px (hT y) 0 (lvT y))) ≤ 64
        rw [px_hi (Nat.zero_le _), px_hi (Nat.zero_le _)]
        unfold LvE at hx hy
        omega
      refine .ite (.bind (pEnter_all ..) fun _ a1 h64 => .bind (hS _ _ (by omega)) fun x a2 hx => .bind (.any _) fun _ a3 _ => .bind (hS _ _ (by omega)) fun y a4 hy => .bind (.any _) fun _ a5 _ => .bind (hE _ _ (by omega)) fun z a6 hz => ?_) ?_
      · show l + lvT _ ≤ 64
        rw [lvT, lvTs, lvTs, lvTs, lvTs]
        show l + (1 + max (max (px (hT x) 2 (lvT x)) (px (hT y) 2 (lvT y))) (px (hT z) 0 (lvT z))) ≤ 64
        rw [px_hi (h := hT z) (Nat.zero_le _)]
        unfold LvM at hx hy
        unfold LvE at hz
        omega
      refine .ite (.bind (pEnter_all ..) fun _ a1 h64 => .bind (hE _ _ (by omega)) fun x a2 hx => .bind (.any _) fun _ a3 _ => .bind (hE _ _ (by omega)) fun y a4 hy => .bind (.any _) fun _ a5 _ => .bind (hE _ _ (by omega)) fun z a6 hz => ?_) ?_
      · show l + lvT _ ≤ 64
        rw [lvT, lvTs, lvTs, lvTs, lvTs]
        show l + (1 + max (max (px (hT x) 0 (lvT x)) (px (hT y) 0 (lvT y))) (px (hT z) 0 (lvT z))) ≤ 64
        rw [px_hi (Nat.zero_le _), px_hi (Nat.zero_le _), px_hi (Nat.zero_le _)]
        unfold LvE at hx hy hz
        omega
      refine .bind (hS _ _ hl) fun x a1 hx => .ite (.bind (hS _ _ hl) fun y a2 hy => ?_) hx.e
      show l + lvT _ ≤ 64
      rw [two_lv]
      show l + max (px (hT x) 2 (lvT x)) (px (hT y) 2 (lvT y)) ≤ 64
      unfold LvM at hx hy
      omega
    · rw [pSum]; exact .bind (hP _ _ hl) fun x j hx => hSL _ _ _ hl (hx.mono (by decide))
    · rw [pSumL]
      have step : ∀ (k : Nat) (y : Tr), (k = 4 ∨ k = 5) → LvM 3 l y → LvM 2 l (.node k [] 0 0 [x, y]) := fun k y hk hy => by
        have e : hT (.node k [] 0 0 [x, y]) = 2 := by rcases hk with rfl | rfl <;> rfl
        unfold LvM
        rw [e, px_hi (Nat.le_refl _), two_lv]
        have e2 : lvK k [(hT x, lvT x), (hT y, lvT y)] = max (px (hT x) 2 (lvT x)) (px (hT y) 3 (lvT y)) := by rcases hk with rfl | rfl <;> rfl
        rw [e2]
        unfold LvM at hx hy
        omega
      exact .ite (.bind (hP _ _ hl) fun y j hy => hSL _ _ _ hl (step 4 y (.inl rfl) hy)) (.ite (.bind (hP _ _ hl) fun y j hy => hSL _ _ _ hl (step 5 y (.inr rfl) hy)) hx)
    · rw [pProd]; exact .bind (hPt _ _ hl) fun x j hx => hPL _ _ _ hl (hx.mono (by decide))
    · rw [pProdL]
      have step : ∀ (k : Nat) (y : Tr), (k = 6 ∨ k = 7) → LvM 4 l y → LvM 3 l (.node k [] 0 0 [x, y]) := fun k y hk hy => by
        have e : hT (.node k [] 0 0 [x, y]) = 3 := by rcases hk with rfl | rfl <;> rfl
        unfold LvM
        rw [e, px_hi (Nat.le_refl _), two_lv]
        have e2 : lvK k [(hT x, lvT x), (hT y, lvT y)] = max (px (hT x) 3 (lvT x)) (px (hT y) 4 (lvT y)) := by rcases hk with rfl | rfl <;> rfl
        rw [e2]
        unfold LvM at hx hy
        omega
      exact .ite (.bind (hPt _ _ hl) fun y j hy => hPL _ _ _ hl (step 6 y (.inl rfl) hy)) (.ite (.bind (hPt _ _ hl) fun y j hy => hPL _ _ _ hl (step 7 y (.inr rfl) hy)) hx)
    · rw [pPart]
      have four : ∀ t : Tr, hT t = 4 → l + lvT t ≤ 64 → LvM 4 l t := fun t h1 h2 => by unfold LvM; rw [h1, px_hi (Nat.le_refl _)]; exact h2
      refine .ite (.bind (.any _) fun nm a1 _ => .ite (.bind (hLs _ _ hl) fun xs a5 hxs => ?_) ?_) ?_
      · refine four _ rfl ?_
        rw [lvT]
        show l + (1 + lmax (lvTs xs)) ≤ 64
        have h1 : lmax (lvTs xs) ≤ 63 - l := lvTs_max fun x hx => by have := hxs.2 x hx; unfold LvE at this; omega
        have := hxs.1
        omega
      · refine four _ rfl ?_
        rw [lvT, lvTs]
        show l + 0 ≤ 64
        omega
      refine .ite (.bind (pEnter_all ..) fun _ a1 h64 => .bind (hE _ _ (by omega)) fun x a2 hx => .bind (.any _) fun _ _ _ => ?_) ?_
      · show l + px (hT x) 4 (lvT x) ≤ 64
        unfold LvE at hx
        unfold px
        split <;> omega
      refine .ite (.bind (pEnter_all ..) fun _ a1 h64 => .bind (hPt _ _ (by omega)) fun x a2 hx => ?_) ?_
      · refine four _ rfl ?_
        rw [lvT, lvTs, lvTs]
        show l + (1 + px (hT x) 4 (lvT x)) ≤ 64
        unfold LvM at hx
        omega
      · have h1 := pNum_all L a
        cases hq : pNum L a with
        | ok t j =>
          rw [hq] at h1
          exact four t h1.2 (by rw [h1.1]; omega)
        | bad e b => trivial
        | out => trivial
    · rw [pList]
      refine .bind (pEnter_all ..) fun _ a1 h64 => ?_
      refine .bind (P := fun xs => ∀ x, x ∈ xs → LvE (l + 1) x) (.ite (fun x hx => by simp at hx) (.bind (hE _ _ (by omega)) fun x a2 hx => hA _ _ _ (by omega) (fun y hy => by simp at hy; subst hy; exact hx))) fun xs a3 hxs => .bind (.any _) fun _ _ _ => ⟨by omega, hxs⟩
    · rw [pArgs]
      exact .ite (.bind (hE _ _ hl) fun y j hy => hA _ _ _ hl (fun z hz => by simp at hz; rcases hz with hz | rfl; exact hx z hz; exact hy)) hx

end Go.Proofs.YthpkcageimhgaaaDoor
