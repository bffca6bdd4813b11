/- Programs as text, plainly: tokens, trees, the grammar. Programs as text, plainly: the grammar ends. -/
import Derived.Test.YtmmgkdcojkmlcaaGreatDoorProg
namespace Go.Proofs.YtmmgkdcojkmlcaaGreatDoor

def isDg (c : UInt8) : Bool := 48 ≤ c && c ≤ 57
def isLt (c : UInt8) : Bool := (65 ≤ c && c ≤ 90) || (97 ≤ c && c ≤ 122)
def inWd (c : UInt8) : Bool := isDg c || isLt c || c == 95
/-- without the blanks and remarks ahead -/
def blank : List UInt8 → List UInt8
  | [] => []
  | c :: r => if c == 32 || c == 9 || c == 10 then blank r else if c == 35 then blank (r.dropWhile (· != 10)) else c :: r
termination_by l => l.length
decreasing_by
  · simp
  · have := (List.dropWhile_sublist (l := r) (· != 10)).length_le
    simp; omega
/-- the sign that stands first, and how long it is -/
def sgn : List UInt8 → Nat × Nat
  | [] => (0, 1)
  | c :: r =>
    if c = 61 then (match r with | 61 :: _ => (15, 2) | _ => (14, 1))
    else (if c = 40 then 10 else if c = 41 then 11 else if c = 44 then 12 else if c = 59 then 13 else if c = 43 then 16 else if c = 45 then 17 else if c = 42 then 18 else if c = 47 then 19 else 0, 1)
/-- a word of the language, or none -/
def kwd (t : List UInt8) : Nat :=
  if t = [102, 110] then 4 else if t = [108, 101, 116] then 5 else if t = [110, 101, 101, 100] then 6 else if t = [105, 102] then 7
  else if t = [116, 104, 101, 110] then 8 else if t = [101, 108, 115, 101] then 9 else 2
def wkd : List UInt8 → Nat
  | [] => 0
  | c :: r => if isLt c then kwd (c :: r) else if c = 48 ∧ r ≠ [] then 0 else if (c :: r).all isDg then 3 else 0
structure Tok where
  kind : Nat
  at' : Nat
  text : List UInt8
def tokR (N : Nat) (r : List UInt8) : Tok :=
  if r = [] then ⟨1, N, []⟩
  else if r.takeWhile inWd ≠ [] then ⟨wkd (r.takeWhile inWd), N - r.length, r.takeWhile inWd⟩
  else ⟨(sgn r).1, N - r.length, r.take (sgn r).2⟩
/-- the first token from a place on -/
def tok (L : List UInt8) (a : Nat) : Tok := tokR L.length (blank (L.drop a))
def Tok.nx (t : Tok) : Nat := t.at' + t.text.length

/-- an expression: what it is (the program's own numbers), its name and where that stands, its number, its parts -/
inductive Tr where
  | node (k : Nat) (name : List UInt8) (at' : Nat) (n : Nat) (kids : List Tr)
structure FnT where
  name : List UInt8
  at' : Nat
  more : List (List UInt8 × Nat)
  body : Tr
inductive Res (α : Type) where
  | ok (x : α) (j : Nat)
  | bad (e at' : Nat)
  | out
def Res.bind {α β : Type} (r : Res α) (f : α → Nat → Res β) : Res β := match r with
  | .ok x j => f x j
  | .bad e a => .bad e a
  | .out => .out
def pTake (L : List UInt8) (k a : Nat) : Res Tok := if (tok L a).kind = k then .ok (tok L a) (tok L a).nx else .bad 5 (tok L a).at'
def pEnter (L : List UInt8) (k a l : Nat) : Res Unit := (pTake L k a).bind fun t j => if l = 64 then .bad 9 t.at' else .ok () j
def pName (L : List UInt8) (a : Nat) : Res (List UInt8 × Nat) := (pTake L 2 a).bind fun t j => if 16 < t.text.length then .bad 3 t.at' else .ok (t.text, t.at') j
/-- what digits are -/
def numV (t : List UInt8) : Nat := t.foldl (fun n c => n * 10 + (c.toNat - 48)) 0
def pNum (L : List UInt8) (a : Nat) : Res Tr := (pTake L 3 a).bind fun t j => if 9223372036854775807 < numV t.text then .bad 3 t.at' else .ok (.node 0 [] 0 (numV t.text) []) j

mutual
def pExpr (L : List UInt8) : Nat → Nat → Nat → Res Tr
  | 0, _, _ => .out
  | f + 1, a, l =>
    if (tok L a).kind = 5 then (pEnter L 5 a l).bind fun _ a1 => (pName L a1).bind fun nm a2 => (pTake L 14 a2).bind fun _ a3 => (pExpr L f a3 (l + 1)).bind fun x a4 =>
      (pTake L 13 a4).bind fun _ a5 => (pExpr L f a5 (l + 1)).bind fun y a6 => .ok (.node 9 nm.1 nm.2 0 [x, y]) a6
    else if (tok L a).kind = 6 then (pEnter L 6 a l).bind fun _ a1 => (pSum L f a1 (l + 1)).bind fun x a2 => (pTake L 15 a2).bind fun _ a3 => (pSum L f a3 (l + 1)).bind fun y a4 =>
      (pTake L 13 a4).bind fun _ a5 => (pExpr L f a5 (l + 1)).bind fun z a6 => .ok (.node 10 [] 0 0 [x, y, z]) a6
    else if (tok L a).kind = 7 then (pEnter L 7 a l).bind fun _ a1 => (pExpr L f a1 (l + 1)).bind fun x a2 => (pTake L 8 a2).bind fun _ a3 => (pExpr L f a3 (l + 1)).bind fun y a4 =>
      (pTake L 9 a4).bind fun _ a5 => (pExpr L f a5 (l + 1)).bind fun z a6 => .ok (.node 11 [] 0 0 [x, y, z]) a6
    else (pSum L f a l).bind fun x a1 => if (tok L a1).kind = 15 then (pSum L f (tok L a1).nx l).bind fun y a2 => .ok (.node 8 [] 0 0 [x, y]) a2 else .ok x a1
def pSum (L : List UInt8) : Nat → Nat → Nat → Res Tr
  | 0, _, _ => .out
  | f + 1, a, l => (pProd L f a l).bind fun x j => pSumL L f x j l
def pSumL (L : List UInt8) : Nat → Tr → Nat → Nat → Res Tr
  | 0, _, _, _ => .out
  | f + 1, x, a, l =>
    if (tok L a).kind = 16 then (pProd L f (tok L a).nx l).bind fun y j => pSumL L f (.node 4 [] 0 0 [x, y]) j l
    else if (tok L a).kind = 17 then (pProd L f (tok L a).nx l).bind fun y j => pSumL L f (.node 5 [] 0 0 [x, y]) j l
    else .ok x a
def pProd (L : List UInt8) : Nat → Nat → Nat → Res Tr
  | 0, _, _ => .out
  | f + 1, a, l => (pPart L f a l).bind fun x j => pProdL L f x j l
def pProdL (L : List UInt8) : Nat → Tr → Nat → Nat → Res Tr
  | 0, _, _, _ => .out
  | f + 1, x, a, l =>
    if (tok L a).kind = 18 then (pPart L f (tok L a).nx l).bind fun y j => pProdL L f (.node 6 [] 0 0 [x, y]) j l
    else if (tok L a).kind = 19 then (pPart L f (tok L a).nx l).bind fun y j => pProdL L f (.node 7 [] 0 0 [x, y]) j l
    else .ok x a
def pPart (L : List UInt8) : Nat → Nat → Nat → Res Tr
  | 0, _, _ => .out
  | f + 1, a, l =>
    if (tok L a).kind = 2 then (pName L a).bind fun nm a1 =>
      if (tok L a1).kind = 10 then (pList L f a1 l).bind fun xs a5 => .ok (.node 2 nm.1 nm.2 0 xs) a5
      else .ok (.node 1 nm.1 nm.2 0 []) a1
    else if (tok L a).kind = 10 then (pEnter L 10 a l).bind fun _ a1 => (pExpr L f a1 (l + 1)).bind fun x a2 => (pTake L 11 a2).bind fun _ a3 => .ok x a3
    else if (tok L a).kind = 17 then (pEnter L 17 a l).bind fun _ a1 => (pPart L f a1 (l + 1)).bind fun x a2 => .ok (.node 3 [] 0 0 [x]) a2
    else pNum L a
def pList (L : List UInt8) : Nat → Nat → Nat → Res (List Tr)
  | 0, _, _ => .out
  | f + 1, a, l => (pEnter L 10 a l).bind fun _ a1 =>
      (if (tok L a1).kind = 11 then .ok [] a1 else (pExpr L f a1 (l + 1)).bind fun x a2 => pArgs L f [x] a2 (l + 1)).bind fun xs a3 => (pTake L 11 a3).bind fun _ a4 => .ok xs a4
def pArgs (L : List UInt8) : Nat → List Tr → Nat → Nat → Res (List Tr)
  | 0, _, _, _ => .out
  | f + 1, xs, a, l => if (tok L a).kind = 12 then (pExpr L f (tok L a).nx l).bind fun x j => pArgs L f (xs ++ [x]) j l else .ok xs a
end
def pNames (L : List UInt8) : Nat → List (List UInt8 × Nat) → Nat → Res (List (List UInt8 × Nat))
  | 0, _, _ => .out
  | f + 1, xs, a => if (tok L a).kind = 12 then (pName L (tok L a).nx).bind fun x j => pNames L f (xs ++ [x]) j else .ok xs a
/-- names in brackets -/
def pBrack (L : List UInt8) (f a : Nat) : Res (List (List UInt8 × Nat)) :=
  (pTake L 10 a).bind fun _ a1 => (if (tok L a1).kind = 11 then .ok [] a1 else (pName L a1).bind fun x a2 => pNames L f [x] a2).bind fun xs a3 => (pTake L 11 a3).bind fun _ a4 => .ok xs a4
def pFun (L : List UInt8) (f a : Nat) : Res FnT :=
  (pTake L 4 a).bind fun _ a1 => (pName L a1).bind fun nm a2 => (pBrack L f a2).bind fun more a3 => (pTake L 14 a3).bind fun _ a4 => (pExpr L f a4 0).bind fun x a5 => .ok ⟨nm.1, nm.2, more, x⟩ a5
def pProg (L : List UInt8) : Nat → List FnT → Nat → Res (List FnT)
  | 0, _, _ => .out
  | f + 1, gs, a => if (tok L a).kind = 1 then .ok gs a else (pFun L f a).bind fun g j => pProg L f (gs ++ [g]) j

theorem blank_le : ∀ (n : Nat) (l : List UInt8), l.length ≤ n → (blank l).length ≤ l.length
  | _, [], _ => by rw [blank]; simp
  | 0, c :: r, h => by simp at h
  | n + 1, c :: r, h => by
    rw [blank]
    simp at h
    have h2 := (List.dropWhile_sublist (l := r) (· != 10)).length_le
    split
    · have := blank_le n r h
      simp; omega
    · split
      · have := blank_le n (r.dropWhile (· != 10)) (by omega)
        simp; omega
      · simp
theorem blank_len (l : List UInt8) : (blank l).length ≤ l.length := blank_le _ l (Nat.le_refl _)
theorem kwd_ne (t : List UInt8) : kwd t ≠ 1 ∧ kwd t ≤ 9 ∧ kwd t ≠ 0 ∧ kwd t ≠ 3 := by
  unfold kwd
  repeat (split; decide)
  decide
theorem wkd_ne (t : List UInt8) : wkd t ≠ 1 ∧ wkd t ≤ 9 := by
  cases t with
  | nil => decide
  | cons c r =>
    rw [wkd]
    split
    · exact ⟨(kwd_ne _).1, (kwd_ne _).2.1⟩
    · split
      · decide
      · split <;> decide
theorem sgn_two (r : List UInt8) : ((sgn r).1 ≠ 1 ∧ ((sgn r).1 = 0 ∨ 10 ≤ (sgn r).1) ∧ (sgn r).1 ≤ 19) ∧ 1 ≤ (sgn r).2 ∧ (r ≠ [] → (sgn r).2 ≤ r.length) := by
  match r with
  | [] => decide
  | c :: r =>
    unfold sgn
    simp only
    split
    · split
      · simp
      · simp
    · refine ⟨?_, Nat.le_refl _, by simp⟩
      repeat (split; decide)
      decide
/-- where a token lies -/
theorem tok_at (L : List UInt8) (a : Nat) (h : a ≤ L.length) : a ≤ (tok L a).at' ∧ (tok L a).nx ≤ L.length ∧ (tok L a).at' ≤ L.length ∧ ((tok L a).kind ≠ 1 → (tok L a).at' < (tok L a).nx) ∧ ((tok L a).kind = 1 → (tok L a).text = [] ∧ (tok L a).at' = L.length) := by
  have hb := blank_len (L.drop a)
  rw [List.length_drop] at hb
  unfold Tok.nx tok
  generalize blank (L.drop a) = r at hb
  unfold tokR
  by_cases hr : r = []
  · rw [if_pos hr]
    simp
    exact h
  · have h0 : 0 < r.length := List.length_pos_iff.2 hr
    rw [if_neg hr]
    split
    · rename_i ht
      have h1 := (List.takeWhile_sublist (l := r) inWd).length_le
      have h2 : 0 < (r.takeWhile inWd).length := List.length_pos_iff.2 ht
      refine ⟨by simp; omega, by simp; omega, by simp, fun _ => by simp; exact h2, fun h3 => absurd h3 (wkd_ne _).1⟩
    · have h3 := sgn_two r
      have h4 := h3.2.2 hr
      refine ⟨by simp; omega, by simp; omega, by simp, fun _ => by simp [List.length_take]; omega, fun h5 => absurd h5 h3.1.1⟩
end Go.Proofs.YtmmgkdcojkmlcaaGreatDoor

namespace Go.Proofs.YtmmgkdcojkmlcaaGreatDoor

/-- a result that is one, behind a place -/
def Res.Fw {α : Type} (N a : Nat) : Res α → Prop
  | .ok _ j => a ≤ j ∧ j ≤ N
  | .bad _ _ => True
  | .out => False
theorem Res.Fw.bind {α β : Type} {N a b : Nat} {r : Res α} {f : α → Nat → Res β} (h : r.Fw N a) (hf : ∀ x j, r = .ok x j → a ≤ j → j ≤ N → (f x j).Fw N b) : (r.bind f).Fw N b := by
  cases r with
  | ok x j => exact hf x j rfl h.1 h.2
  | bad e at' => trivial
  | out => exact h
theorem Res.Fw.mono {α : Type} {N a b : Nat} {r : Res α} (h : r.Fw N a) (hb : b ≤ a) : r.Fw N b := by
  cases r with
  | ok x j => exact ⟨Nat.le_trans hb h.1, h.2⟩
  | bad e at' => trivial
  | out => exact h
theorem pTake_fw (L : List UInt8) (k a : Nat) (h : a ≤ L.length) (hk : k ≠ 1) : (pTake L k a).Fw L.length (a + 1) := by
  unfold pTake
  have h1 := tok_at L a h
  split
  · rename_i e
    have := h1.2.2.2.1 (by rw [e]; exact hk)
    exact ⟨by have := h1.1; omega, h1.2.1⟩
  · trivial
theorem pEnter_fw (L : List UInt8) (k a l : Nat) (h : a ≤ L.length) (hk : k ≠ 1) : (pEnter L k a l).Fw L.length (a + 1) := by
  refine (pTake_fw L k a h hk).bind fun x j _ h1 h2 => ?_
  split
  · trivial
  · exact ⟨h1, h2⟩
theorem pName_fw (L : List UInt8) (a : Nat) (h : a ≤ L.length) : (pName L a).Fw L.length (a + 1) := by
  refine (pTake_fw L 2 a h (by decide)).bind fun x j _ h1 h2 => ?_
  split
  · trivial
  · exact ⟨h1, h2⟩
theorem pNum_fw (L : List UInt8) (a : Nat) (h : a ≤ L.length) : (pNum L a).Fw L.length (a + 1) := by
  refine (pTake_fw L 3 a h (by decide)).bind fun x j _ h1 h2 => ?_
  split
  · trivial
  · exact ⟨h1, h2⟩
theorem nx_fw (L : List UInt8) (a k : Nat) (h : a ≤ L.length) (hk : (tok L a).kind = k) (h1 : k ≠ 1) : a + 1 ≤ (tok L a).nx ∧ (tok L a).nx ≤ L.length := by
  have h2 := tok_at L a h
  have := h2.2.2.2.1 (by rw [hk]; exact h1)
  exact ⟨by have := h2.1; omega, h2.2.1⟩

/-- with so much fuel there is a result -/
theorem p_fw (L : List UInt8) : ∀ (f : Nat),
    (∀ a l, a ≤ L.length → 4 * (L.length - a) + 4 ≤ f → (pExpr L f a l).Fw L.length (a + 1)) ∧
    (∀ a l, a ≤ L.length → 4 * (L.length - a) + 3 ≤ f → (pSum L f a l).Fw L.length (a + 1)) ∧
    (∀ x a l, a ≤ L.length → 4 * (L.length - a) + 1 ≤ f → (pSumL L f x a l).Fw L.length a) ∧
    (∀ a l, a ≤ L.length → 4 * (L.length - a) + 2 ≤ f → (pProd L f a l).Fw L.length (a + 1)) ∧
    (∀ x a l, a ≤ L.length → 4 * (L.length - a) + 1 ≤ f → (pProdL L f x a l).Fw L.length a) ∧
    (∀ a l, a ≤ L.length → 4 * (L.length - a) + 1 ≤ f → (pPart L f a l).Fw L.length (a + 1)) ∧
    (∀ a l, a ≤ L.length → 4 * (L.length - a) + 1 ≤ f → (pList L f a l).Fw L.length (a + 1)) ∧
    (∀ xs a l, a ≤ L.length → 4 * (L.length - a) + 1 ≤ f → (pArgs L f xs a l).Fw L.length a)
  | 0 => by
    refine ⟨?_, ?_, ?_, ?_, ?_, ?_, ?_, ?_⟩
    all_goals (intros; omega)
  | f + 1 => by
    obtain ⟨iE, iS, iSL, iP, iPL, iX, iLs, iA⟩ := p_fw L f
    refine ⟨?_, ?_, ?_, ?_, ?_, ?_, ?_, ?_⟩
    · intro a l ha hf
      rw [pExpr]
      split
      · refine (pEnter_fw L 5 a l ha (by decide)).bind fun _ a1 _ h1 m1 => ?_
        refine (pName_fw L a1 m1).bind fun nm a2 _ h2 m2 => ?_
        refine (pTake_fw L 14 a2 m2 (by decide)).bind fun _ a3 _ h3 m3 => ?_
        refine (iE a3 _ m3 (by omega)).bind fun _ a4 _ h4 m4 => ?_
        refine (pTake_fw L 13 a4 m4 (by decide)).bind fun _ a5 _ h5 m5 => ?_
        refine (iE a5 _ m5 (by omega)).bind fun _ a6 _ h6 m6 => ?_
        exact ⟨by omega, m6⟩
      · split
        · refine (pEnter_fw L 6 a l ha (by decide)).bind fun _ a1 _ h1 m1 => ?_
          refine (iS a1 _ m1 (by omega)).bind fun _ a2 _ h2 m2 => ?_
          refine (pTake_fw L 15 a2 m2 (by decide)).bind fun _ a3 _ h3 m3 => ?_
          refine (iS a3 _ m3 (by omega)).bind fun _ a4 _ h4 m4 => ?_
          refine (pTake_fw L 13 a4 m4 (by decide)).bind fun _ a5 _ h5 m5 => ?_
          refine (iE a5 _ m5 (by omega)).bind fun _ a6 _ h6 m6 => ?_
          exact ⟨by omega, m6⟩
        · split
          · refine (pEnter_fw L 7 a l ha (by decide)).bind fun _ a1 _ h1 m1 => ?_
            refine (iE a1 _ m1 (by omega)).bind fun _ a2 _ h2 m2 => ?_
            refine (pTake_fw L 8 a2 m2 (by decide)).bind fun _ a3 _ h3 m3 => ?_
            refine (iE a3 _ m3 (by omega)).bind fun _ a4 _ h4 m4 => ?_
            refine (pTake_fw L 9 a4 m4 (by decide)).bind fun _ a5 _ h5 m5 => ?_
            refine (iE a5 _ m5 (by omega)).bind fun _ a6 _ h6 m6 => ?_
            exact ⟨by omega, m6⟩
          · refine (iS a l ha (by omega)).bind fun _ a1 _ h1 m1 => ?_
            split
            · rename_i hk
              obtain ⟨h2, m2⟩ := nx_fw L a1 15 m1 hk (by decide)
              refine (iS _ l m2 (by omega)).bind fun _ a3 _ h3 m3 => ?_
              exact ⟨by omega, m3⟩
            · exact ⟨h1, m1⟩
    · intro a l ha hf
      rw [pSum]
      refine (iP a l ha (by omega)).bind fun x a1 _ h1 m1 => ?_
      exact (iSL x a1 l m1 (by omega)).mono h1
    · intro x a l ha hf
      rw [pSumL]
      split
      · rename_i hk
        obtain ⟨h2, m2⟩ := nx_fw L a 16 ha hk (by decide)
        refine (iP _ l m2 (by omega)).bind fun _ a3 _ h3 m3 => ?_
        exact (iSL _ a3 l m3 (by omega)).mono (by omega)
      · split
        · rename_i hk
          obtain ⟨h2, m2⟩ := nx_fw L a 17 ha hk (by decide)
          refine (iP _ l m2 (by omega)).bind fun _ a3 _ h3 m3 => ?_
          exact (iSL _ a3 l m3 (by omega)).mono (by omega)
        · exact ⟨Nat.le_refl _, ha⟩
    · intro a l ha hf
      rw [pProd]
      refine (iX a l ha (by omega)).bind fun x a1 _ h1 m1 => ?_
      exact (iPL x a1 l m1 (by omega)).mono h1
    · intro x a l ha hf
      rw [pProdL]
      split
      · rename_i hk
        obtain ⟨h2, m2⟩ := nx_fw L a 18 ha hk (by decide)
        refine (iX _ l m2 (by omega)).bind fun _ a3 _ h3 m3 => ?_
        exact (iPL _ a3 l m3 (by omega)).mono (by omega)
      · split
        · rename_i hk
          obtain ⟨h2, m2⟩ := nx_fw L a 19 ha hk (by decide)
          refine (iX _ l m2 (by omega)).bind fun _ a3 _ h3 m3 => ?_
          exact (iPL _ a3 l m3 (by omega)).mono (by omega)
        · exact ⟨Nat.le_refl _, ha⟩
    · intro a l ha hf
      rw [pPart]
      split
      · refine (pName_fw L a ha).bind fun nm a1 _ h1 m1 => ?_
        split
        · refine (iLs a1 l m1 (by omega)).bind fun xs a2 _ h2 m2 => ?_
          exact ⟨by omega, m2⟩
        · exact ⟨h1, m1⟩
      · split
        · refine (pEnter_fw L 10 a l ha (by decide)).bind fun _ a1 _ h1 m1 => ?_
          refine (iE a1 _ m1 (by omega)).bind fun _ a2 _ h2 m2 => ?_
          refine (pTake_fw L 11 a2 m2 (by decide)).bind fun _ a3 _ h3 m3 => ?_
          exact ⟨by omega, m3⟩
        · split
          · refine (pEnter_fw L 17 a l ha (by decide)).bind fun _ a1 _ h1 m1 => ?_
            refine (iX a1 _ m1 (by omega)).bind fun _ a2 _ h2 m2 => ?_
            exact ⟨by omega, m2⟩
          · exact pNum_fw L a ha
    · intro a l ha hf
      rw [pList]
      refine (pEnter_fw L 10 a l ha (by decide)).bind fun _ a1 _ h1 m1 => ?_
      refine Res.Fw.bind (a := a1) ?_ fun xs a3 _ h3 m3 => ?_
      · split
        · exact ⟨Nat.le_refl _, m1⟩
        · refine (iE a1 _ m1 (by omega)).bind fun x a2 _ h2 m2 => ?_
          exact (iA _ a2 _ m2 (by omega)).mono (by omega)
      · refine (pTake_fw L 11 a3 m3 (by decide)).bind fun _ a4 _ h4 m4 => ?_
        exact ⟨by omega, m4⟩
    · intro xs a l ha hf
      rw [pArgs]
      split
      · rename_i hk
        obtain ⟨h2, m2⟩ := nx_fw L a 12 ha hk (by decide)
        refine (iE _ l m2 (by omega)).bind fun _ a3 _ h3 m3 => ?_
        exact (iA _ a3 l m3 (by omega)).mono (by omega)
      · exact ⟨Nat.le_refl _, ha⟩
theorem pNames_fw (L : List UInt8) : ∀ (f : Nat) (xs : List (List UInt8 × Nat)) (a : Nat), a ≤ L.length → L.length - a + 1 ≤ f → (pNames L f xs a).Fw L.length a
  | 0, _, _, _, h => by omega
  | f + 1, xs, a, ha, hf => by
    rw [pNames]
    split
    · rename_i hk
      obtain ⟨h2, m2⟩ := nx_fw L a 12 ha hk (by decide)
      refine (pName_fw L _ m2).bind fun x j _ h3 m3 => ?_
      exact (pNames_fw L f _ j m3 (by omega)).mono (by omega)
    · exact ⟨Nat.le_refl _, ha⟩
theorem pBrack_fw (L : List UInt8) (f a : Nat) (ha : a ≤ L.length) (hf : L.length - a ≤ f) : (pBrack L f a).Fw L.length (a + 1) := by
  unfold pBrack
  refine (pTake_fw L 10 a ha (by decide)).bind fun _ a1 _ h1 m1 => ?_
  refine Res.Fw.bind (a := a1) ?_ fun xs a3 _ h3 m3 => ?_
  · split
    · exact ⟨Nat.le_refl _, m1⟩
    · refine (pName_fw L a1 m1).bind fun x a2 _ h2 m2 => ?_
      exact (pNames_fw L f _ a2 m2 (by omega)).mono (by omega)
  · refine (pTake_fw L 11 a3 m3 (by decide)).bind fun _ a4 _ h4 m4 => ?_
    exact ⟨by omega, m4⟩
theorem pFun_fw (L : List UInt8) (f a : Nat) (ha : a ≤ L.length) (hf : 4 * (L.length - a) ≤ f) : (pFun L f a).Fw L.length (a + 1) := by
  unfold pFun
  refine (pTake_fw L 4 a ha (by decide)).bind fun _ a1 _ h1 m1 => ?_
  refine (pName_fw L a1 m1).bind fun nm a2 _ h2 m2 => ?_
  refine (pBrack_fw L f a2 m2 (by omega)).bind fun more a3 _ h3 m3 => ?_
  refine (pTake_fw L 14 a3 m3 (by decide)).bind fun _ a4 _ h4 m4 => ?_
  refine ((p_fw L f).1 a4 0 m4 (by omega)).bind fun x a5 _ h5 m5 => ?_
  exact ⟨by omega, m5⟩
theorem pProg_fw (L : List UInt8) : ∀ (f : Nat) (gs : List FnT) (a : Nat), a ≤ L.length → 4 * (L.length - a) + 1 ≤ f → (pProg L f gs a).Fw L.length a
  | 0, _, _, _, h => by omega
  | f + 1, gs, a, ha, hf => by
    rw [pProg]
    split
    · exact ⟨Nat.le_refl _, ha⟩
    · refine (pFun_fw L f a ha (by omega)).bind fun g j _ h1 m1 => ?_
      exact (pProg_fw L f _ j m1 (by omega)).mono (by omega)

end Go.Proofs.YtmmgkdcojkmlcaaGreatDoor
