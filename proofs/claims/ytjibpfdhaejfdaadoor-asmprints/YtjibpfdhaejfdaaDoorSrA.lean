/- Programs as text, plainly: tokens, trees, the grammar. -/
import Derived.Test.YtjibpfdhaejfdaaDoorProg
namespace Go.Proofs.YtjibpfdhaejfdaaDoor

def isDg (c : UInt8) : Bool := 48 ≤ c && c ≤ 57
def isLt (c : UInt8) : Bool := (65 ≤ c && c ≤ 90) || (97 ≤ c && c ≤ 122)
def inWd (c : UInt8) : Bool := isDg c || isLt c || c == 95
/-- without the blanks and remarks ahead -/
def blank : List UInt8 → List UInt8
  | [] => []
  | c :: r => if c == 32 || c == 9 || c == 10 then blank r else if c == 35 then blank (r.dropWhile (· != 10)) else c :: r
termination_by l => l.length
decreasing_by
  · simp
  · have := (List.dropWhile_sublist (l := r) (· != 10)).length_le
    simp; omega
/-- the sign that stands first, and how long it is -/
def sgn : List UInt8 → Nat × Nat
  | [] => (0, 1)
  | c :: r =>
    if c = 61 then (match r with | 61 :: _ => (15, 2) | _ => (14, 1))
    else (if c = 40 then 10 else if c = 41 then 11 else if c = 44 then 12 else if c = 59 then 13 else if c = 43 then 16 else if c = 45 then 17 else if c = 42 then 18 else if c = 47 then 19 else 0, 1)
/-- a word of the language, or none -/
def kwd (t : List UInt8) : Nat :=
  if t = [102, 110] then 4 else if t = [108, 101, 116] then 5 else if t = [110, 101, 101, 100] then 6 else if t = [105, 102] then 7
  else if t = [116, 104, 101, 110] then 8 else if t = [101, 108, 115, 101] then 9 else 2
def wkd : List UInt8 → Nat
  | [] => 0
  | c :: r => if isLt c then kwd (c :: r) else if c = 48 ∧ r ≠ [] then 0 else if (c :: r).all isDg then 3 else 0
structure Tok where
  kind : Nat
  at' : Nat
  text : List UInt8
def tokR (N : Nat) (r : List UInt8) : Tok :=
  if r = [] then ⟨1, N, []⟩
  else if r.takeWhile inWd ≠ [] then ⟨wkd (r.takeWhile inWd), N - r.length, r.takeWhile inWd⟩
  else ⟨(sgn r).1, N - r.length, r.take (sgn r).2⟩
/-- the first token from a place on -/
def tok (L : List UInt8) (a : Nat) : Tok := tokR L.length (blank (L.drop a))
def Tok.nx (t : Tok) : Nat := t.at' + t.text.length

/-- an expression: what it is (the program's own numbers), its name and where that stands, its number, its parts -/
inductive Tr where
  | node (k : Nat) (name : List UInt8) (at' : Nat) (n : Nat) (kids : List Tr)
structure FnT where
  name : List UInt8
  at' : Nat
  more : List (List UInt8 × Nat)
  body : Tr
inductive Res (α : Type) where
  | ok (x : α) (j : Nat)
  | bad (e at' : Nat)
  | out
def Res.bind {α β : Type} (r : Res α) (f : α → Nat → Res β) : Res β := match r with
  | .ok x j => f x j
  | .bad e a => .bad e a
  | .out => .out
def pTake (L : List UInt8) (k a : Nat) : Res Tok := if (tok L a).kind = k then .ok (tok L a) (tok L a).nx else .bad 5 (tok L a).at'
def pEnter (L : List UInt8) (k a l : Nat) : Res Unit := (pTake L k a).bind fun t j => if l = 64 then .bad 9 t.at' else .ok () j
def pName (L : List UInt8) (a : Nat) : Res (List UInt8 × Nat) := (pTake L 2 a).bind fun t j => if 16 < t.text.length then .bad 3 t.at' else .ok (t.text, t.at') j
/-- what digits are -/
def numV (t : List UInt8) : Nat := t.foldl (fun n c => n * 10 + (c.toNat - 48)) 0
def pNum (L : List UInt8) (a : Nat) : Res Tr := (pTake L 3 a).bind fun t j => if 9223372036854775807 < numV t.text then .bad 3 t.at' else .ok (.node 0 [] 0 (numV t.text) []) j

mutual
def pExpr (L : List UInt8) : Nat → Nat → Nat → Res Tr
  | 0, _, _ => .out
  | f + 1, a, l =>
    if (tok L a).kind = 5 then (pEnter L 5 a l).bind fun _ a1 => (pName L a1).bind fun nm a2 => (pTake L 14 a2).bind fun _ a3 => (pExpr L f a3 (l + 1)).bind fun x a4 =>
      (pTake L 13 a4).bind fun _ a5 => (pExpr L f a5 (l + 1)).bind fun y a6 => .ok (.node 9 nm.1 nm.2 0 [x, y]) a6
    else if (tok L a).kind = 6 then (pEnter L 6 a l).bind fun _ a1 => (pSum L f a1 (l + 1)).bind fun x a2 => (pTake L 15 a2).bind fun _ a3 => (pSum L f a3 (l + 1)).bind fun y a4 =>
      (pTake L 13 a4).bind fun _ a5 => (pExpr L f a5 (l + 1)).bind fun z a6 => .ok (.node 10 [] 0 0 [x, y, z]) a6
    else if (tok L a).kind = 7 then (pEnter L 7 a l).bind fun _ a1 => (pExpr L f a1 (l + 1)).bind fun x a2 => (pTake L 8 a2).bind fun _ a3 => (pExpr L f a3 (l + 1)).bind fun y a4 =>
      (pTake L 9 a4).bind fun _ a5 => (pExpr L f a5 (l + 1)).bind fun z a6 => .ok (.node 11 [] 0 0 [x, y, z]) a6
    else (pSum L f a l).bind fun x a1 => if (tok L a1).kind = 15 then (pSum L f (tok L a1).nx l).bind fun y a2 => .ok (.node 8 [] 0 0 [x, y]) a2 else .ok x a1
def pSum (L : List UInt8) : Nat → Nat → Nat → Res Tr
  | 0, _, _ => .out
  | f + 1, a, l => (pProd L f a l).bind fun x j => pSumL L f x j l
def pSumL (L : List UInt8) : Nat → Tr → Nat → Nat → Res Tr
  | 0, _, _, _ => .out
  | f + 1, x, a, l =>
    if (tok L a).kind = 16 then (pProd L f (tok L a).nx l).bind fun y j => pSumL L f (.node 4 [] 0 0 [x, y]) j l
    else if (tok L a).kind = 17 then (pProd L f (tok L a).nx l).bind fun y j => pSumL L f (.node 5 [] 0 0 [x, y]) j l
    else .ok x a
def pProd (L : List UInt8) : Nat → Nat → Nat → Res Tr
  | 0, _, _ => .out
  | f + 1, a, l => (pPart L f a l).bind fun x j => pProdL L f x j l
def pProdL (L : List UInt8) : Nat → Tr → Nat → Nat → Res Tr
  | 0, _, _, _ => .out
  | f + 1, x, a, l =>
    if (tok L a).kind = 18 then (pPart L f (tok L a).nx l).bind fun y j => pProdL L f (.node 6 [] 0 0 [x, y]) j l
    else if (tok L a).kind = 19 then (pPart L f (tok L a).nx l).bind fun y j => pProdL L f (.node 7 [] 0 0 [x, y]) j l
    else .ok x a
def pPart (L : List UInt8) : Nat → Nat → Nat → Res Tr
  | 0, _, _ => .out
  | f + 1, a, l =>
    if (tok L a).kind = 2 then (pName L a).bind fun nm a1 =>
      if (tok L a1).kind = 10 then (pList L f a1 l).bind fun xs a5 => .ok (.node 2 nm.1 nm.2 0 xs) a5
      else .ok (.node 1 nm.1 nm.2 0 []) a1
    else if (tok L a).kind = 10 then (pEnter L 10 a l).bind fun _ a1 => (pExpr L f a1 (l + 1)).bind fun x a2 => (pTake L 11 a2).bind fun _ a3 => .ok x a3
    else if (tok L a).kind = 17 then (pEnter L 17 a l).bind fun _ a1 => (pPart L f a1 (l + 1)).bind fun x a2 => .ok (.node 3 [] 0 0 [x]) a2
    else pNum L a
def pList (L : List UInt8) : Nat → Nat → Nat → Res (List Tr)
  | 0, _, _ => .out
  | f + 1, a, l => (pEnter L 10 a l).bind fun _ a1 =>
      (if (tok L a1).kind = 11 then .ok [] a1 else (pExpr L f a1 (l + 1)).bind fun x a2 => pArgs L f [x] a2 (l + 1)).bind fun xs a3 => (pTake L 11 a3).bind fun _ a4 => .ok xs a4
def pArgs (L : List UInt8) : Nat → List Tr → Nat → Nat → Res (List Tr)
  | 0, _, _, _ => .out
  | f + 1, xs, a, l => if (tok L a).kind = 12 then (pExpr L f (tok L a).nx l).bind fun x j => pArgs L f (xs ++ [x]) j l else .ok xs a
end
end Go.Proofs.YtjibpfdhaejfdaaDoor
