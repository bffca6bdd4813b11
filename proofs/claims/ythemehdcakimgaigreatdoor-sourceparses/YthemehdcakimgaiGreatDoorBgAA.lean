/- Programs as text, plainly: tokens, trees, the grammar. Programs as text, plainly: the grammar ends. Package source: bytes and words. strings.IndexByte, HasPrefix, Clone: laid for this program. Package source: words and signs. -/
import Derived.Test.YthemehdcakimgaiGreatDoorProg
import Derived.Test.YthemehdcakimgaiGreatDoorFld
import Derived.Lib.Strings
import Derived.Shelf.Small.Strs
import Derived.Shelf.Strings.Prefix
import Derived.Shelf.LaysM
import Derived.Shelf.Strconv.Clone
namespace Go.Proofs.YthemehdcakimgaiGreatDoor

def isDg (c : UInt8) : Bool := 48 ≤ c && c ≤ 57
def isLt (c : UInt8) : Bool := (65 ≤ c && c ≤ 90) || (97 ≤ c && c ≤ 122)
def inWd (c : UInt8) : Bool := isDg c || isLt c || c == 95
/-- without the blanks and remarks ahead -/
def blank : List UInt8 → List UInt8
  | [] => []
  | c :: r => if c == 32 || c == 9 || c == 10 then blank r else if c == 35 then blank (r.dropWhile (· != 10)) else c :: r
termination_by l => l.length
decreasing_by
  · simp
  · have := (List.dropWhile_sublist (l := r) (· != 10)).length_le
    simp; omega
/-- the sign that stands first, and how long it is -/
def sgn : List UInt8 → Nat × Nat
  | [] => (0, 1)
  | c :: r =>
    if c = 61 then (match r with | 61 :: _ => (15, 2) | _ => (14, 1))
    else (if c = 40 then 10 else if c = 41 then 11 else if c = 44 then 12 else if c = 59 then 13 else if c = 43 then 16 else if c = 45 then 17 else if c = 42 then 18 else if c = 47 then 19 else 0, 1)
/-- a word of the language, or none -/
def kwd (t : List UInt8) : Nat :=
  if t = [102, 110] then 4 else if t = [108, 101, 116] then 5 else if t = [110, 101, 101, 100] then 6 else if t = [105, 102] then 7
  else if t = [116, 104, 101, 110] then 8 else if t = [101, 108, 115, 101] then 9 else 2
def wkd : List UInt8 → Nat
  | [] => 0
  | c :: r => if isLt c then kwd (c :: r) else if c = 48 ∧ r ≠ [] then 0 else if (c :: r).all isDg then 3 else 0
structure Tok where
  kind : Nat
  at' : Nat
  text : List UInt8
def tokR (N : Nat) (r : List UInt8) : Tok :=
  if r = [] then ⟨1, N, []⟩
  else if r.takeWhile inWd ≠ [] then ⟨wkd (r.takeWhile inWd), N - r.length, r.takeWhile inWd⟩
  else ⟨(sgn r).1, N - r.length, r.take (sgn r).2⟩
/-- the first token from a place on -/
def tok (L : List UInt8) (a : Nat) : Tok := tokR L.length (blank (L.drop a))
def Tok.nx (t : Tok) : Nat := t.at' + t.text.length

/-- an expression: what it is (the program's own numbers), its name and where that stands, its number, its parts -/
inductive Tr where
  | node (k : Nat) (name : List UInt8) (at' : Nat) (n : Nat) (kids : List Tr)
structure FnT where
  name : List UInt8
  at' : Nat
  more : List (List UInt8 × Nat)
  body : Tr
inductive Res (α : Type) where
  | ok (x : α) (j : Nat)
  | bad (e at' : Nat)
  | out
def Res.bind {α β : Type} (r : Res α) (f : α → Nat → Res β) : Res β := match r with
  | .ok x j => f x j
  | .bad e a => .bad e a
  | .out => .out
def pTake (L : List UInt8) (k a : Nat) : Res Tok := if (tok L a).kind = k then .ok (tok L a) (tok L a).nx else .bad 5 (tok L a).at'
def pEnter (L : List UInt8) (k a l : Nat) : Res Unit := (pTake L k a).bind fun t j => if l = 64 then .bad 9 t.at' else .ok () j
def pName (L : List UInt8) (a : Nat) : Res (List UInt8 × Nat) := (pTake L 2 a).bind fun t j => if 16 < t.text.length then .bad 3 t.at' else .ok (t.text, t.at') j
/-- what digits are -/
def numV (t : List UInt8) : Nat := t.foldl (fun n c => n * 10 + (c.toNat - 48)) 0
def pNum (L : List UInt8) (a : Nat) : Res Tr := (pTake L 3 a).bind fun t j => if 9223372036854775807 < numV t.text then .bad 3 t.at' else .ok (.node 0 [] 0 (numV t.text) []) j

mutual
def pExpr (L : List UInt8) : Nat → Nat → Nat → Res Tr
  | 0, _, _ => .out
  | f + 1, a, l =>
    if (tok L a).kind = 5 then (pEnter L 5 a l).bind fun _ a1 => (pName L a1).bind fun nm a2 => (pTake L 14 a2).bind fun _ a3 => (pExpr L f a3 (l + 1)).bind fun x a4 =>
      (pTake L 13 a4).bind fun _ a5 => (pExpr L f a5 (l + 1)).bind fun y a6 => .ok (.node 9 nm.1 nm.2 0 [x, y]) a6
    else if (tok L a).kind = 6 then (pEnter L 6 a l).bind fun _ a1 => (pSum L f a1 (l + 1)).bind fun x a2 => (pTake L 15 a2).bind fun _ a3 => (pSum L f a3 (l + 1)).bind fun y a4 =>
      (pTake L 13 a4).bind fun _ a5 => (pExpr L f a5 (l + 1)).bind fun z a6 => .ok (.node 10 [] 0 0 [x, y, z]) a6
    else if (tok L a).kind = 7 then (pEnter L 7 a l).bind fun _ a1 => (pExpr L f a1 (l + 1)).bind fun x a2 => (pTake L 8 a2).bind fun _ a3 => (pExpr L f a3 (l + 1)).bind fun y a4 =>
      (pTake L 9 a4).bind fun _ a5 => (pExpr L f a5 (l + 1)).bind fun z a6 => .ok (.node 11 [] 0 0 [x, y, z]) a6
    else (pSum L f a l).bind fun x a1 => if (tok L a1).kind = 15 then (pSum L f (tok L a1).nx l).bind fun y a2 => .ok (.node 8 [] 0 0 [x, y]) a2 else .ok x a1
def pSum (L : List UInt8) : Nat → Nat → Nat → Res Tr
  | 0, _, _ => .out
  | f + 1, a, l => (pProd L f a l).bind fun x j => pSumL L f x j l
def pSumL (L : List UInt8) : Nat → Tr → Nat → Nat → Res Tr
  | 0, _, _, _ => .out
  | f + 1, x, a, l =>
    if (tok L a).kind = 16 then (pProd L f (tok L a).nx l).bind fun y j => pSumL L f (.node 4 [] 0 0 [x, y]) j l
    else if (tok L a).kind = 17 then (pProd L f (tok L a).nx l).bind fun y j => pSumL L f (.node 5 [] 0 0 [x, y]) j l
    else .ok x a
def pProd (L : List UInt8) : Nat → Nat → Nat → Res Tr
  | 0, _, _ => .out
  | f + 1, a, l => (pPart L f a l).bind fun x j => pProdL L f x j l
def pProdL (L : List UInt8) : Nat → Tr → Nat → Nat → Res Tr
  | 0, _, _, _ => .out
  | f + 1, x, a, l =>
    if (tok L a).kind = 18 then (pPart L f (tok L a).nx l).bind fun y j => pProdL L f (.node 6 [] 0 0 [x, y]) j l
    else if (tok L a).kind = 19 then (pPart L f (tok L a).nx l).bind fun y j => pProdL L f (.node 7 [] 0 0 [x, y]) j l
    else .ok x a
def pPart (L : List UInt8) : Nat → Nat → Nat → Res Tr
  | 0, _, _ => .out
  | f + 1, a, l =>
    if (tok L a).kind = 2 then (pName L a).bind fun nm a1 =>
      if (tok L a1).kind = 10 then (pList L f a1 l).bind fun xs a5 => .ok (.node 2 nm.1 nm.2 0 xs) a5
      else .ok (.node 1 nm.1 nm.2 0 []) a1
    else if (tok L a).kind = 10 then (pEnter L 10 a l).bind fun _ a1 => (pExpr L f a1 (l + 1)).bind fun x a2 => (pTake L 11 a2).bind fun _ a3 => .ok x a3
    else if (tok L a).kind = 17 then (pEnter L 17 a l).bind fun _ a1 => (pPart L f a1 (l + 1)).bind fun x a2 => .ok (.node 3 [] 0 0 [x]) a2
    else pNum L a
def pList (L : List UInt8) : Nat → Nat → Nat → Res (List Tr)
  | 0, _, _ => .out
  | f + 1, a, l => (pEnter L 10 a l).bind fun _ a1 =>
      (if (tok L a1).kind = 11 then .ok [] a1 else (pExpr L f a1 (l + 1)).bind fun x a2 => pArgs L f [x] a2 (l + 1)).bind fun xs a3 => (pTake L 11 a3).bind fun _ a4 => .ok xs a4
def pArgs (L : List UInt8) : Nat → List Tr → Nat → Nat → Res (List Tr)
  | 0, _, _, _ => .out
  | f + 1, xs, a, l => if (tok L a).kind = 12 then (pExpr L f (tok L a).nx l).bind fun x j => pArgs L f (xs ++ [x]) j l else .ok xs a
end
def pNames (L : List UInt8) : Nat → List (List UInt8 × Nat) → Nat → Res (List (List UInt8 × Nat))
  | 0, _, _ => .out
  | f + 1, xs, a => if (tok L a).kind = 12 then (pName L (tok L a).nx).bind fun x j => pNames L f (xs ++ [x]) j else .ok xs a
/-- names in brackets -/
def pBrack (L : List UInt8) (f a : Nat) : Res (List (List UInt8 × Nat)) :=
  (pTake L 10 a).bind fun _ a1 => (if (tok L a1).kind = 11 then .ok [] a1 else (pName L a1).bind fun x a2 => pNames L f [x] a2).bind fun xs a3 => (pTake L 11 a3).bind fun _ a4 => .ok xs a4
def pFun (L : List UInt8) (f a : Nat) : Res FnT :=
  (pTake L 4 a).bind fun _ a1 => (pName L a1).bind fun nm a2 => (pBrack L f a2).bind fun more a3 => (pTake L 14 a3).bind fun _ a4 => (pExpr L f a4 0).bind fun x a5 => .ok ⟨nm.1, nm.2, more, x⟩ a5
def pProg (L : List UInt8) : Nat → List FnT → Nat → Res (List FnT)
  | 0, _, _ => .out
  | f + 1, gs, a => if (tok L a).kind = 1 then .ok gs a else (pFun L f a).bind fun g j => pProg L f (gs ++ [g]) j

theorem blank_le : ∀ (n : Nat) (l : List UInt8), l.length ≤ n → (blank l).length ≤ l.length
  | _, [], _ => by rw [blank]; simp
  | 0, c :: r, h => by simp at h
  | n + 1, c :: r, h => by
    rw [blank]
    simp at h
    have h2 := (List.dropWhile_sublist (l := r) (· != 10)).length_le
    split
    · have := blank_le n r h
      simp; omega
    · split
      · have := blank_le n (r.dropWhile (· != 10)) (by omega)
        simp; omega
      · simp
theorem blank_len (l : List UInt8) : (blank l).length ≤ l.length := blank_le _ l (Nat.le_refl _)
theorem kwd_ne (t : List UInt8) : kwd t ≠ 1 ∧ kwd t ≤ 9 ∧ kwd t ≠ 0 ∧ kwd t ≠ 3 := by
  unfold kwd
  repeat (split; decide)
  decide
theorem wkd_ne (t : List UInt8) : wkd t ≠ 1 ∧ wkd t ≤ 9 := by
  cases t with
  | nil => decide
  | cons c r =>
    rw [wkd]
    split
    · exact ⟨(kwd_ne _).1, (kwd_ne _).2.1⟩
    · split
      · decide
      · split <;> decide
theorem sgn_two (r : List UInt8) : ((sgn r).1 ≠ 1 ∧ ((sgn r).1 = 0 ∨ 10 ≤ (sgn r).1) ∧ (sgn r).1 ≤ 19) ∧ 1 ≤ (sgn r).2 ∧ (r ≠ [] → (sgn r).2 ≤ r.length) := by
  match r with
  | [] => decide
  | c :: r =>
    unfold sgn
    simp only
    split
    · split
      · simp
      · simp
    · refine ⟨?_, Nat.le_refl _, by simp⟩
      repeat (split; decide)
      decide
/-- where a token lies -/
theorem tok_at (L : List UInt8) (a : Nat) (h : a ≤ L.length) : a ≤ (tok L a).at' ∧ (tok L a).nx ≤ L.length ∧ (tok L a).at' ≤ L.length ∧ ((tok L a).kind ≠ 1 → (tok L a).at' < (tok L a).nx) ∧ ((tok L a).kind = 1 → (tok L a).text = [] ∧ (tok L a).at' = L.length) := by
  have hb := blank_len (L.drop a)
  rw [List.length_drop] at hb
  unfold Tok.nx tok
  generalize blank (L.drop a) = r at hb
  unfold tokR
  by_cases hr : r = []
  · rw [if_pos hr]
    simp
    exact h
  · have h0 : 0 < r.length := List.length_pos_iff.2 hr
    rw [if_neg hr]
    split
    · rename_i ht
      have h1 := (List.takeWhile_sublist (l := r) inWd).length_le
      have h2 : 0 < (r.takeWhile inWd).length := List.length_pos_iff.2 ht
      refine ⟨by simp; omega, by simp; omega, by simp, fun _ => by simp; exact h2, fun h3 => absurd h3 (wkd_ne _).1⟩
    · have h3 := sgn_two r
      have h4 := h3.2.2 hr
      refine ⟨by simp; omega, by simp; omega, by simp, fun _ => by simp [List.length_take]; omega, fun h5 => absurd h5 h3.1.1⟩
theorem tok_nx (L : List UInt8) (a : Nat) (h : a ≤ L.length) : a ≤ (tok L a).nx := by
  have := (tok_at L a h).1
  unfold Tok.nx
  omega

end Go.Proofs.YthemehdcakimgaiGreatDoor

namespace Go.Proofs.YthemehdcakimgaiGreatDoor

/-- a result that is one, behind a place -/
def Res.Fw {α : Type} (N a : Nat) : Res α → Prop
  | .ok _ j => a ≤ j ∧ j ≤ N
  | .bad _ _ => True
  | .out => False
theorem Res.Fw.bind {α β : Type} {N a b : Nat} {r : Res α} {f : α → Nat → Res β} (h : r.Fw N a) (hf : ∀ x j, r = .ok x j → a ≤ j → j ≤ N → (f x j).Fw N b) : (r.bind f).Fw N b := by
  cases r with
  | ok x j => exact hf x j rfl h.1 h.2
  | bad e at' => trivial
  | out => exact h
theorem Res.Fw.mono {α : Type} {N a b : Nat} {r : Res α} (h : r.Fw N a) (hb : b ≤ a) : r.Fw N b := by
  cases r with
  | ok x j => exact ⟨Nat.le_trans hb h.1, h.2⟩
  | bad e at' => trivial
  | out => exact h
theorem pTake_fw (L : List UInt8) (k a : Nat) (h : a ≤ L.length) (hk : k ≠ 1) : (pTake L k a).Fw L.length (a + 1) := by
  unfold pTake
  have h1 := tok_at L a h
  split
  · rename_i e
    have := h1.2.2.2.1 (by rw [e]; exact hk)
    exact ⟨by have := h1.1; omega, h1.2.1⟩
  · trivial
theorem pEnter_fw (L : List UInt8) (k a l : Nat) (h : a ≤ L.length) (hk : k ≠ 1) : (pEnter L k a l).Fw L.length (a + 1) := by
  refine (pTake_fw L k a h hk).bind fun x j _ h1 h2 => ?_
  split
  · trivial
  · exact ⟨h1, h2⟩
theorem pName_fw (L : List UInt8) (a : Nat) (h : a ≤ L.length) : (pName L a).Fw L.length (a + 1) := by
  refine (pTake_fw L 2 a h (by decide)).bind fun x j _ h1 h2 => ?_
  split
  · trivial
  · exact ⟨h1, h2⟩
theorem pNum_fw (L : List UInt8) (a : Nat) (h : a ≤ L.length) : (pNum L a).Fw L.length (a + 1) := by
  refine (pTake_fw L 3 a h (by decide)).bind fun x j _ h1 h2 => ?_
  split
  · trivial
  · exact ⟨h1, h2⟩
theorem nx_fw (L : List UInt8) (a k : Nat) (h : a ≤ L.length) (hk : (tok L a).kind = k) (h1 : k ≠ 1) : a + 1 ≤ (tok L a).nx ∧ (tok L a).nx ≤ L.length := by
  have h2 := tok_at L a h
  have := h2.2.2.2.1 (by rw [hk]; exact h1)
  exact ⟨by have := h2.1; omega, h2.2.1⟩

/-- with so much fuel there is a result -/
theorem p_fw (L : List UInt8) : ∀ (f : Nat),
    (∀ a l, a ≤ L.length → 4 * (L.length - a) + 4 ≤ f → (pExpr L f a l).Fw L.length (a + 1)) ∧
    (∀ a l, a ≤ L.length → 4 * (L.length - a) + 3 ≤ f → (pSum L f a l).Fw L.length (a + 1)) ∧
    (∀ x a l, a ≤ L.length → 4 * (L.length - a) + 1 ≤ f → (pSumL L f x a l).Fw L.length a) ∧
    (∀ a l, a ≤ L.length → 4 * (L.length - a) + 2 ≤ f → (pProd L f a l).Fw L.length (a + 1)) ∧
    (∀ x a l, a ≤ L.length → 4 * (L.length - a) + 1 ≤ f → (pProdL L f x a l).Fw L.length a) ∧
    (∀ a l, a ≤ L.length → 4 * (L.length - a) + 1 ≤ f → (pPart L f a l).Fw L.length (a + 1)) ∧
    (∀ a l, a ≤ L.length → 4 * (L.length - a) + 1 ≤ f → (pList L f a l).Fw L.length (a + 1)) ∧
    (∀ xs a l, a ≤ L.length → 4 * (L.length - a) + 1 ≤ f → (pArgs L f xs a l).Fw L.length a)
  | 0 => by
    refine ⟨?_, ?_, ?_, ?_, ?_, ?_, ?_, ?_⟩
    all_goals (intros; omega)
  | f + 1 => by
    obtain ⟨iE, iS, iSL, iP, iPL, iX, iLs, iA⟩ := p_fw L f
    refine ⟨?_, ?_, ?_, ?_, ?_, ?_, ?_, ?_⟩
    · intro a l ha hf
      rw [pExpr]
      split
      · refine (pEnter_fw L 5 a l ha (by decide)).bind fun _ a1 _ h1 m1 => ?_
        refine (pName_fw L a1 m1).bind fun nm a2 _ h2 m2 => ?_
        refine (pTake_fw L 14 a2 m2 (by decide)).bind fun _ a3 _ h3 m3 => ?_
        refine (iE a3 _ m3 (by omega)).bind fun _ a4 _ h4 m4 => ?_
        refine (pTake_fw L 13 a4 m4 (by decide)).bind fun _ a5 _ h5 m5 => ?_
        refine (iE a5 _ m5 (by omega)).bind fun _ a6 _ h6 m6 => ?_
        exact ⟨by omega, m6⟩
      · split
        · refine (pEnter_fw L 6 a l ha (by decide)).bind fun _ a1 _ h1 m1 => ?_
          refine (iS a1 _ m1 (by omega)).bind fun _ a2 _ h2 m2 => ?_
          refine (pTake_fw L 15 a2 m2 (by decide)).bind fun _ a3 _ h3 m3 => ?_
          refine (iS a3 _ m3 (by omega)).bind fun _ a4 _ h4 m4 => ?_
          refine (pTake_fw L 13 a4 m4 (by decide)).bind fun _ a5 _ h5 m5 => ?_
          refine (iE a5 _ m5 (by omega)).bind fun _ a6 _ h6 m6 => ?_
          exact ⟨by omega, m6⟩
        · split
          · refine (pEnter_fw L 7 a l ha (by decide)).bind fun _ a1 _ h1 m1 => ?_
            refine (iE a1 _ m1 (by omega)).bind fun _ a2 _ h2 m2 => ?_
            refine (pTake_fw L 8 a2 m2 (by decide)).bind fun _ a3 _ h3 m3 => ?_
            refine (iE a3 _ m3 (by omega)).bind fun _ a4 _ h4 m4 => ?_
            refine (pTake_fw L 9 a4 m4 (by decide)).bind fun _ a5 _ h5 m5 => ?_
            refine (iE a5 _ m5 (by omega)).bind fun _ a6 _ h6 m6 => ?_
            exact ⟨by omega, m6⟩
          · refine (iS a l ha (by omega)).bind fun _ a1 _ h1 m1 => ?_
            split
            · rename_i hk
              obtain ⟨h2, m2⟩ := nx_fw L a1 15 m1 hk (by decide)
              refine (iS _ l m2 (by omega)).bind fun _ a3 _ h3 m3 => ?_
              exact ⟨by omega, m3⟩
            · exact ⟨h1, m1⟩
    · intro a l ha hf
      rw [pSum]
      refine (iP a l ha (by omega)).bind fun x a1 _ h1 m1 => ?_
      exact (iSL x a1 l m1 (by omega)).mono h1
    · intro x a l ha hf
      rw [pSumL]
      split
      · rename_i hk
        obtain ⟨h2, m2⟩ := nx_fw L a 16 ha hk (by decide)
        refine (iP _ l m2 (by omega)).bind fun _ a3 _ h3 m3 => ?_
        exact (iSL _ a3 l m3 (by omega)).mono (by omega)
      · split
        · rename_i hk
          obtain ⟨h2, m2⟩ := nx_fw L a 17 ha hk (by decide)
          refine (iP _ l m2 (by omega)).bind fun _ a3 _ h3 m3 => ?_
          exact (iSL _ a3 l m3 (by omega)).mono (by omega)
        · exact ⟨Nat.le_refl _, ha⟩
    · intro a l ha hf
      rw [pProd]
      refine (iX a l ha (by omega)).bind fun x a1 _ h1 m1 => ?_
      exact (iPL x a1 l m1 (by omega)).mono h1
    · intro x a l ha hf
      rw [pProdL]
      split
      · rename_i hk
        obtain ⟨h2, m2⟩ := nx_fw L a 18 ha hk (by decide)
        refine (iX _ l m2 (by omega)).bind fun _ a3 _ h3 m3 => ?_
        exact (iPL _ a3 l m3 (by omega)).mono (by omega)
      · split
        · rename_i hk
          obtain ⟨h2, m2⟩ := nx_fw L a 19 ha hk (by decide)
          refine (iX _ l m2 (by omega)).bind fun _ a3 _ h3 m3 => ?_
          exact (iPL _ a3 l m3 (by omega)).mono (by omega)
        · exact ⟨Nat.le_refl _, ha⟩
    · intro a l ha hf
      rw [pPart]
      split
      · refine (pName_fw L a ha).bind fun nm a1 _ h1 m1 => ?_
        split
        · refine (iLs a1 l m1 (by omega)).bind fun xs a2 _ h2 m2 => ?_
          exact ⟨by omega, m2⟩
        · exact ⟨h1, m1⟩
      · split
        · refine (pEnter_fw L 10 a l ha (by decide)).bind fun _ a1 _ h1 m1 => ?_
          refine (iE a1 _ m1 (by omega)).bind fun _ a2 _ h2 m2 => ?_
          refine (pTake_fw L 11 a2 m2 (by decide)).bind fun _ a3 _ h3 m3 => ?_
          exact ⟨by omega, m3⟩
        · split
          · refine (pEnter_fw L 17 a l ha (by decide)).bind fun _ a1 _ h1 m1 => ?_
            refine (iX a1 _ m1 (by omega)).bind fun _ a2 _ h2 m2 => ?_
            exact ⟨by omega, m2⟩
          · exact pNum_fw L a ha
    · intro a l ha hf
      rw [pList]
      refine (pEnter_fw L 10 a l ha (by decide)).bind fun _ a1 _ h1 m1 => ?_
      refine Res.Fw.bind (a := a1) ?_ fun xs a3 _ h3 m3 => ?_
      · split
        · exact ⟨Nat.le_refl _, m1⟩
        · refine (iE a1 _ m1 (by omega)).bind fun x a2 _ h2 m2 => ?_
          exact (iA _ a2 _ m2 (by omega)).mono (by omega)
      · refine (pTake_fw L 11 a3 m3 (by decide)).bind fun _ a4 _ h4 m4 => ?_
        exact ⟨by omega, m4⟩
    · intro xs a l ha hf
      rw [pArgs]
      split
      · rename_i hk
        obtain ⟨h2, m2⟩ := nx_fw L a 12 ha hk (by decide)
        refine (iE _ l m2 (by omega)).bind fun _ a3 _ h3 m3 => ?_
        exact (iA _ a3 l m3 (by omega)).mono (by omega)
      · exact ⟨Nat.le_refl _, ha⟩
theorem pNames_fw (L : List UInt8) : ∀ (f : Nat) (xs : List (List UInt8 × Nat)) (a : Nat), a ≤ L.length → L.length - a + 1 ≤ f → (pNames L f xs a).Fw L.length a
  | 0, _, _, _, h => by omega
  | f + 1, xs, a, ha, hf => by
    rw [pNames]
    split
    · rename_i hk
      obtain ⟨h2, m2⟩ := nx_fw L a 12 ha hk (by decide)
      refine (pName_fw L _ m2).bind fun x j _ h3 m3 => ?_
      exact (pNames_fw L f _ j m3 (by omega)).mono (by omega)
    · exact ⟨Nat.le_refl _, ha⟩
theorem pBrack_fw (L : List UInt8) (f a : Nat) (ha : a ≤ L.length) (hf : L.length - a ≤ f) : (pBrack L f a).Fw L.length (a + 1) := by
  unfold pBrack
  refine (pTake_fw L 10 a ha (by decide)).bind fun _ a1 _ h1 m1 => ?_
  refine Res.Fw.bind (a := a1) ?_ fun xs a3 _ h3 m3 => ?_
  · split
    · exact ⟨Nat.le_refl _, m1⟩
    · refine (pName_fw L a1 m1).bind fun x a2 _ h2 m2 => ?_
      exact (pNames_fw L f _ a2 m2 (by omega)).mono (by omega)
  · refine (pTake_fw L 11 a3 m3 (by decide)).bind fun _ a4 _ h4 m4 => ?_
    exact ⟨by omega, m4⟩
theorem pFun_fw (L : List UInt8) (f a : Nat) (ha : a ≤ L.length) (hf : 4 * (L.length - a) ≤ f) : (pFun L f a).Fw L.length (a + 1) := by
  unfold pFun
  refine (pTake_fw L 4 a ha (by decide)).bind fun _ a1 _ h1 m1 => ?_
  refine (pName_fw L a1 m1).bind fun nm a2 _ h2 m2 => ?_
  refine (pBrack_fw L f a2 m2 (by omega)).bind fun more a3 _ h3 m3 => ?_
  refine (pTake_fw L 14 a3 m3 (by decide)).bind fun _ a4 _ h4 m4 => ?_
  refine ((p_fw L f).1 a4 0 m4 (by omega)).bind fun x a5 _ h5 m5 => ?_
  exact ⟨by omega, m5⟩
theorem pProg_fw (L : List UInt8) : ∀ (f : Nat) (gs : List FnT) (a : Nat), a ≤ L.length → 4 * (L.length - a) + 1 ≤ f → (pProg L f gs a).Fw L.length a
  | 0, _, _, _, h => by omega
  | f + 1, gs, a, ha, hf => by
    rw [pProg]
    split
    · exact ⟨Nat.le_refl _, ha⟩
    · refine (pFun_fw L f a ha (by omega)).bind fun g j _ h1 m1 => ?_
      exact (pProg_fw L f _ j m1 (by omega)).mono (by omega)

end Go.Proofs.YthemehdcakimgaiGreatDoor

namespace Go.Proofs.YthemehdcakimgaiGreatDoor
open Go.RowKit

/-- a string of bytes -/
def bs (l : List UInt8) : ByteArray := ⟨l.toArray⟩
theorem bs_size (l : List UInt8) : (bs l).size = l.length := by simp [bs, ByteArray.size]
theorem bs_list (l : List UInt8) : (bs l).toList = l := by rw [Lib.toList_data]; simp [bs]
theorem bs_of (s : ByteArray) : bs s.data.toList = s := by simp [bs]
theorem bs_get (l : List UInt8) (i : Nat) (h : i < (bs l).size) : (bs l)[i] = l[i]'(by rw [bs_size] at h; exact h) := by simp [bs, ByteArray.getElem_eq_getElem_data]
theorem bs_ext (l : List UInt8) (a b : Nat) : (bs l).extract a b = bs ((l.take b).drop a) := by
  apply ByteArray.ext
  simp [bs, ByteArray.data_extract, List.drop_take]
theorem bs_app (l m : List UInt8) : bs l ++ bs m = bs (l ++ m) := by
  apply ByteArray.ext
  simp [bs]
theorem bs_inj {l m : List UInt8} (h : bs l = bs m) : l = m := by
  have := congrArg ByteArray.toList h
  rwa [bs_list, bs_list] at this

theorem isdigit_any (c : UInt8) (w : World) : Calls Tryz.prog 88 #[.int .u8 (c.toNat : Int)] w fun e w' => e = .returned (.bool (isDg c)) ∧ w' = w := by
  have e : isDg c = (decide (48 ≤ (c.toNat : Int)) && decide ((c.toNat : Int) ≤ 57)) := by
    unfold isDg
    rw [Bool.eq_iff_iff]
    simp [UInt8.le_iff_toNat_le]
    omega
  rw [e]
  generalize (c.toNat : Int) = m
  by_cases h1 : 48 ≤ m
  · by_cases h2 : m ≤ 57
    all_goals
      go_enter Tryz.func88, Tryz.ntmps88
      go_wp2_with fail
      go_ret
      simp
      try omega
  · go_enter Tryz.func88, Tryz.ntmps88
    go_wp2_with fail
    go_ret
    simp
    omega
set_option maxHeartbeats 400000 in
theorem isletter_any (c : UInt8) (w : World) : Calls Tryz.prog 87 #[.int .u8 (c.toNat : Int)] w fun e w' => e = .returned (.bool (isLt c)) ∧ w' = w := by
  have e : isLt c = ((decide (65 ≤ (c.toNat : Int)) && decide ((c.toNat : Int) ≤ 90)) || (decide (97 ≤ (c.toNat : Int)) && decide ((c.toNat : Int) ≤ 122))) := by
    unfold isLt
    rw [Bool.eq_iff_iff]
    simp [UInt8.le_iff_toNat_le]
    omega
  rw [e]
  generalize (c.toNat : Int) = m
  by_cases h1 : 97 ≤ m
  · by_cases h2 : m ≤ 122
    · go_enter Tryz.func87, Tryz.ntmps87
      go_wp2_with fail
      go_ret
      simp
      try omega
    · have h3 : 65 ≤ m := by omega
      have h4 : ¬ m ≤ 90 := by omega
      go_enter Tryz.func87, Tryz.ntmps87
      go_wp2_with fail
      go_ret
      simp
      try omega
  · by_cases h3 : 65 ≤ m
    · by_cases h4 : m ≤ 90
      all_goals
        go_enter Tryz.func87, Tryz.ntmps87
        go_wp2_with fail
        go_ret
        simp
        try omega
    · go_enter Tryz.func87, Tryz.ntmps87
      go_wp2_with fail
      go_ret
      simp
      try omega

end Go.Proofs.YthemehdcakimgaiGreatDoor

namespace Go.Proofs
open Go.Shelf

def Tryz.lays137_ren : Go.Shelf.Ren := ⟨fun | 137 => 102 | 217 => 112 | 266 => 119 | n => n, fun | 9 => 9 | 5 => 5 | 3 => 3 | n => n, fun | n => n⟩
theorem Tryz.lays137 : Go.Proofs.Lays.n137 Tryz.prog Tryz.lays137_ren := {
  mixed := by kernel_rfl
  f137 := Tryz.func102.trans (congrArg some (by kernel_rfl))
  f217 := Tryz.func112.trans (congrArg some (by kernel_rfl))
  f266 := Tryz.func119.trans (congrArg some (by kernel_rfl))
  t3 := Tryz.underlying3
  a3 := Tryz.isAgg3
  z3 := Tryz.sizeOf3
  v3 := Tryz.zeroValue3
  t5 := Tryz.underlying5
  a5 := Tryz.isAgg5
  z5 := Tryz.sizeOf5
  v5 := Tryz.zeroValue5
  t9 := Tryz.underlying9
  a9 := Tryz.isAgg9
  z9 := Tryz.sizeOf9
  v9 := Tryz.zeroValue9 }
open Go.RowKit in
theorem Tryz.strings_IndexByte (s : ByteArray) (c : Int) (w : World) :
    Calls Tryz.prog 102 #[.string s, .int .u8 c] w fun e w' => e = .returned (.int .i64 (Lib.indexByte s.data.toList c.toNat.toUInt8)) ∧ w' = w := Any.strings_IndexByte Tryz.lays137 s c w
def Tryz.laysM316_ren : Go.Shelf.Ren := ⟨fun | 316 => 104 | n => n, fun | 9 => 9 | 3 => 3 | 4 => 4 | 37 => 66 | 0 => 0 | 127 => 90 | 5 => 5 | n => n, fun | n => n⟩
theorem Tryz.laysM316 : Go.Proofs.LaysM.n316 Tryz.prog Tryz.laysM316_ren := {
  mixed := by kernel_rfl
  f316 := Tryz.func104.trans (congrArg some (by kernel_rfl))
  t0 := Tryz.underlying0
  a0 := Tryz.isAgg0
  z0 := Tryz.sizeOf0
  v0 := Tryz.zeroValue0
  t3 := Tryz.underlying3
  a3 := Tryz.isAgg3
  z3 := Tryz.sizeOf3
  v3 := Tryz.zeroValue3
  t4 := Tryz.underlying4
  a4 := Tryz.isAgg4
  z4 := Tryz.sizeOf4
  v4 := Tryz.zeroValue4
  t9 := Tryz.underlying9
  a9 := Tryz.isAgg9
  z9 := Tryz.sizeOf9
  v9 := Tryz.zeroValue9
  t37 := Tryz.underlying66
  a37 := Tryz.isAgg66
  z37 := Tryz.sizeOf66
  v37 := Tryz.zeroValue66
  t127 := Tryz.underlying90
  a127 := Tryz.isAgg90
  z127 := Tryz.sizeOf90
  v127 := Tryz.zeroValue90
  t5 := Tryz.underlying5
  a5 := Tryz.isAgg5
  z5 := Tryz.sizeOf5
  v5 := Tryz.zeroValue5
  i0 := by kernel_rfl
  i3 := by kernel_rfl
  i4 := by kernel_rfl
  i5 := by kernel_rfl
  i9 := by kernel_rfl
  i37 := by kernel_rfl
  i127 := by kernel_rfl }
open Go.RowKit in
theorem Tryz.stringslite_Clone (s : ByteArray) (w : World) (hlim : s.size ≤ 281474976710656) :
    Calls Tryz.prog 104 #[.string s] w fun e w' => e = .returned (.string s) ∧ Below w.heap.size w w' := Any.stringslite_Clone Tryz.laysM316 s w hlim
def Tryz.lays99_ren : Go.Shelf.Ren := ⟨fun | 99 => 90 | 206 => 103 | n => n, fun | 9 => 9 | 4 => 4 | 3 => 3 | n => n, fun | n => n⟩
theorem Tryz.lays99 : Go.Proofs.Lays.n99 Tryz.prog Tryz.lays99_ren := {
  mixed := by kernel_rfl
  f99 := Tryz.func90.trans (congrArg some (by kernel_rfl))
  f206 := Tryz.func103.trans (congrArg some (by kernel_rfl))
  t3 := Tryz.underlying3
  a3 := Tryz.isAgg3
  z3 := Tryz.sizeOf3
  v3 := Tryz.zeroValue3
  t4 := Tryz.underlying4
  a4 := Tryz.isAgg4
  z4 := Tryz.sizeOf4
  v4 := Tryz.zeroValue4
  t9 := Tryz.underlying9
  a9 := Tryz.isAgg9
  z9 := Tryz.sizeOf9
  v9 := Tryz.zeroValue9 }
open Go.RowKit Go.Lib in
theorem Tryz.strings_HasPrefix (s p : ByteArray) (w : World) :
    Calls Tryz.prog 90 #[.string s, .string p] w fun e w' => e = .returned (.bool (Lib.hasPrefix s.data.toList p.data.toList)) ∧ w' = w := Any.strings_HasPrefix Tryz.lays99 s p w

end Go.Proofs

namespace Go.Proofs.YthemehdcakimgaiGreatDoor
open Go.RowKit

/-- the bytes of a string -/
def by' (s : ByteArray) : List UInt8 := s.data.toList
theorem by_bs (l : List UInt8) : by' (bs l) = l := by simp [by', bs]
theorem bs_by (s : ByteArray) : bs (by' s) = s := bs_of s
theorem by_len (s : ByteArray) : (by' s).length = s.size := Array.length_toList
theorem by_get (s : ByteArray) (k : Nat) (h : k < s.size) : (by' s)[k]'(by rw [by_len]; exact h) = s[k] := Array.getElem_toList _
theorem by_getD (s : ByteArray) (k : Nat) (h : k < s.size) : (by' s).getD k 0 = s[k] := by
  rw [← by_get s k h, List.getD_eq_getElem?_getD, List.getElem?_eq_getElem (by rw [by_len]; exact h)]
  rfl
theorem by_list (s : ByteArray) : s.toList = by' s := Lib.toList_data s
theorem by_ext (s : ByteArray) (a b : Nat) : by' (s.extract a b) = ((by' s).drop a).take (b - a) := by
  have := bs_ext (by' s) a b
  rw [bs_by] at this
  rw [this, by_bs, List.drop_take]
theorem by_inj {s t : ByteArray} (h : by' s = by' t) : s = t := by rw [← bs_by s, h, bs_by]

theorem tw_stop {p : UInt8 → Bool} : ∀ (l : List UInt8) (k : Nat), k < l.length → (∀ j, j < k → p (l.getD j 0) = true) → p (l.getD k 0) = false → (l.takeWhile p).length = k
  | [], _, h, _, _ => by simp at h
  | c :: r, 0, _, _, h => by
    have : p c = false := h
    simp [this]
  | c :: r, k + 1, h, ha, hn => by
    have h0 : p c = true := ha 0 (by omega)
    have ih := tw_stop r k (by simpa using h) (fun j hj => ha (j + 1) (by omega)) hn
    simp [h0, ih]
theorem tw_all {p : UInt8 → Bool} : ∀ (l : List UInt8), (∀ j, j < l.length → p (l.getD j 0) = true) → (l.takeWhile p).length = l.length
  | [], _ => rfl
  | c :: r, ha => by
    have h0 : p c = true := ha 0 (by simp)
    have ih := tw_all r (fun j hj => ha (j + 1) (by simpa using hj))
    simp [h0, ih]
theorem ib_tw : ∀ (l : List UInt8) (c : UInt8), (Lib.indexByte l c = -1 ∧ (l.takeWhile (· != c)).length = l.length) ∨ (0 ≤ Lib.indexByte l c ∧ Lib.indexByte l c = (l.takeWhile (· != c)).length)
  | [], _ => .inl ⟨rfl, rfl⟩
  | b :: l, c => by
    by_cases h : b = c
    · subst h
      exact .inr (by simp [Lib.indexByte])
    · have h1 : (b == c) = false := by simpa using h
      have h2 : (b != c) = true := by simp [h]
      rcases ib_tw l c with ⟨e1, e2⟩ | ⟨e1, e2⟩
      · refine .inl ?_
        simp [Lib.indexByte, h1, e1, h2, e2]
      · refine .inr ?_
        have h3 : ¬ Lib.indexByte l c = -1 := by omega
        simp [Lib.indexByte, h1, h2, h3]
        omega
theorem lineLen_any (s : ByteArray) (w : World) : Calls Tryz.prog 86 #[.string s] w fun e w' => e = .returned (.int .i64 (((by' s).takeWhile (· != 10)).length : Nat)) ∧ w' = w := by
  have HI := hid (Tryz.strings_IndexByte s 10 w)
  have hc : Lib.indexByte s.data.toList (10 : Int).toNat.toUInt8 = Lib.indexByte (by' s) 10 := rfl
  rw [hc] at HI
  have HT := hid (ib_tw (by' s) 10)
  generalize Lib.indexByte (by' s) 10 = n at HI HT
  have HL := hid (by_len s)
  generalize ((by' s).takeWhile (· != 10)).length = m at HT
  clear hc
  rcases HT.out with ⟨rfl, h2⟩ | ⟨h1, h2⟩
  · have HM : Hid (m = s.size) := h2.trans HL.out
    clear h2
    go_enter Tryz.func86, Tryz.ntmps86
    go_wp2_with fail
    refine HI.out.mono ?_
    rintro e w1 ⟨rfl, rfl⟩
    go_wp2_with fail
    go_ret
    exact ⟨by rw [HM.out]; rfl, rfl⟩
  · have HM := hid h2
    clear h2
    go_enter Tryz.func86, Tryz.ntmps86
    go_wp2_with fail
    refine HI.out.mono ?_
    rintro e w1 ⟨rfl, rfl⟩
    go_wp2_with fail
    go_ret
    exact ⟨by rw [HM.out]; rfl, rfl⟩
set_option maxHeartbeats 400000 in
theorem wordLen_any (s : ByteArray) (w : World) (hs : s.size ≤ 1000000) : Calls Tryz.prog 69 #[.string s] w fun e w' => e = .returned (.int .i64 (((by' s).takeWhile inWd).length : Nat)) ∧ w' = w := by
  have hnot : ∀ (x : Bool) (w : World), (Op.unary .not (.bool x)).run Tryz.prog w = .ok (.bool (!x)) w := fun _ _ => rfl
  have HIL := hid isletter_any
  have HID := hid isdigit_any
  obtain ⟨r, hr⟩ : ∃ r, r = ((by' s).takeWhile inWd).length := ⟨_, rfl⟩
  have HR := hid hr
  rw [← hr]
  clear hr
  go_enter Tryz.func69, Tryz.ntmps69
  go_wp2_with fail
  go_loop [7] (fun i => ∃ k : Nat, k ≤ s.size ∧ i = .int .i64 k ∧ Hid (∀ j, j < k → inWd ((by' s).getD j 0) = true)) (fun i => s.size - (intOf i).toNat)
  case atStart => exact ⟨0, Nat.zero_le _, rfl, fun j hj => by omega⟩
  case round =>
    obtain ⟨k, hk, rfl, HA⟩ := hrel
    by_cases hlt : k < s.size
    · have hlt2 : (k : Int) < (s.size : Int) := by omega
      have hwr : IntKind.i64.wrap ((k : Int) + 1) = (k : Int) + 1 := by rw [IntKind.wrap_i64]; omega
      obtain ⟨c, hc⟩ : ∃ c, s[k] = c := ⟨_, rfl⟩
      have HG : Hid ((by' s).getD k 0 = c) := (by_getD s k hlt).trans hc
      by_cases h1 : isLt c = true
      · have HN : Hid (inWd c = true) := by unfold Hid inWd; rw [h1]; simp
        go_wp2_with fail
        refine (HIL.out c w).mono ?_
        rintro e w1 ⟨rfl, rfl⟩
        rw [h1]
        go_wp2_with fail
        go_round
        case rel => exact ⟨k + 1, by omega, by go_num, fun j hj => by
            rcases Nat.lt_or_ge j k with g | g
            · exact HA.out j g
            · obtain rfl : j = k := by omega
              rw [HG.out]; exact HN.out⟩
        case measure => simp [intOf]; omega
      · have h1' : isLt c = false := by simpa using h1
        clear h1
        by_cases h2 : isDg c = true
        · have HN : Hid (inWd c = true) := by unfold Hid inWd; rw [h2]; simp
          go_wp2_with fail
          refine (HIL.out c w).mono ?_
          rintro e w1 ⟨rfl, rfl⟩
          rw [h1']
          go_wp2_with fail
          refine (HID.out c w1).mono ?_
          rintro e w2 ⟨rfl, rfl⟩
          rw [h2]
          go_wp2_with fail
          go_round
          case rel => exact ⟨k + 1, by omega, by go_num, fun j hj => by
              rcases Nat.lt_or_ge j k with g | g
              · exact HA.out j g
              · obtain rfl : j = k := by omega
                rw [HG.out]; exact HN.out⟩
          case measure => simp [intOf]; omega
        · have h2' : isDg c = false := by simpa using h2
          clear h2
          by_cases h3 : (c.toNat : Int) = 95
          · have HN : Hid (inWd c = true) := by
              unfold Hid inWd
              have : c = 95 := by apply UInt8.toNat_inj.1; show c.toNat = 95; omega
              rw [this]; decide
            have h3b : ((c.toNat : Int) != 95) = false := by rw [h3]; rfl
            clear h3
            go_wp2_with fail
            refine (HIL.out c w).mono ?_
            rintro e w1 ⟨rfl, rfl⟩
            rw [h1']
            go_wp2_with fail
            refine (HID.out c w1).mono ?_
            rintro e w2 ⟨rfl, rfl⟩
            rw [h2']
            go_wp2_with fail
            go_round
            case rel => exact ⟨k + 1, by omega, by go_num, fun j hj => by
                rcases Nat.lt_or_ge j k with g | g
                · exact HA.out j g
                · obtain rfl : j = k := by omega
                  rw [HG.out]; exact HN.out⟩
            case measure => simp [intOf]; omega
          · have HN : Hid (inWd c = false) := by
              unfold Hid inWd
              have : (c == 95) = false := by
                simp
                intro e
                subst e
                exact h3 rfl
              rw [h1', h2', this]; rfl
            have h3b : ((c.toNat : Int) != 95) = true := by simp [h3]
            go_wp2_with fail
            refine (HIL.out c w).mono ?_
            rintro e w1 ⟨rfl, rfl⟩
            rw [h1']
            go_wp2_with fail
            refine (HID.out c w1).mono ?_
            rintro e w2 ⟨rfl, rfl⟩
            rw [h2']
            go_wp2_with fail
            go_ret
            have hl := by_len s
            exact ⟨by rw [HR.out, tw_stop (by' s) k (by omega) HA.out (by rw [HG.out]; exact HN.out)]; rfl, rfl⟩
    · obtain rfl : k = s.size := by omega
      have hlt2 : ¬ (s.size : Int) < (s.size : Int) := by omega
      go_wp2_with fail
      go_ret
      have hl := by_len s
      exact ⟨by rw [HR.out, tw_all (by' s) (fun j hj => HA.out j (by omega)), hl]; rfl, rfl⟩

end Go.Proofs.YthemehdcakimgaiGreatDoor
