/- Code as text: what is written, plainly; the small functions of package asm and of its reference. A region that draws its order, walked by hand: what is read is taken first. -/
import Derived.Test.YtjibpfdhaejfdaaDoorIpAA
import Derived.Test.YtjibpfdhaejfdaaDoorIpAB
import Derived.Test.YtjibpfdhaejfdaaDoorShlC
import Derived.Lib.ItoaLen
import Derived.Lib.ItoaMem
import Derived.Test.YtjibpfdhaejfdaaDoorFld
import Derived.OrdersHeld
import Derived.Deep.RegionHeld3
namespace Go.Proofs.YtjibpfdhaejfdaaDoor
open Go.RowKit

/-- the operators' words, and what stands behind each: 0 nothing, 1 a number, 2 where it goes -/
def fWds : List (List UInt8) := [[104, 97, 108, 116], [97, 100, 100], [115, 117, 98], [109, 117, 108], [100, 105, 118], [115, 101, 116], [115, 97, 109, 101], [109, 117, 115, 116], [106, 117, 109, 112], [122, 101, 114, 111], [99, 97, 108, 108], [98, 97, 99, 107], [116, 97, 107, 101], [112, 97, 115, 115]]
def fWd (k : Nat) : List UInt8 := fWds.getD k []
def fSls : List (List Nat) := [[1, 0, 0], [1, 1, 1], [1, 1, 1], [1, 1, 1], [1, 1, 1], [1, 1, 0], [1, 1, 1], [1, 1, 0], [2, 0, 0], [1, 2, 0], [2, 1, 0], [1, 0, 0], [1, 0, 0], [1, 1, 0]]
def fSl (k i : Nat) : Nat := (fSls.getD k []).getD i 0
/-- the reference's letters -/
def fNds : List (List UInt8) := [[97], [97, 98, 99], [97, 98, 99], [97, 98, 99], [97, 98, 99], [97, 98], [97, 98, 99], [97, 98], [65], [97, 66], [65, 98], [97], [97], [97, 98]]
def fNd (k : Nat) : List UInt8 := fNds.getD k []
theorem fSl_lt (k i : Nat) : fSl k i ≤ 2 := by
  unfold fSl
  by_cases h : k < 14
  · have h1 : ∀ k, k < 14 → ∀ i, i < 3 → (fSls.getD k []).getD i 0 ≤ 2 := by decide
    by_cases h2 : i < 3
    · exact h1 k h i h2
    · have h4 : ∀ k, k < 14 → (fSls.getD k []).length = 3 := by decide
      rw [List.getD_eq_getElem?_getD, List.getElem?_eq_none (by rw [h4 k h]; omega)]
      simp
  · have : fSls.getD k [] = [] := by rw [List.getD_eq_getElem?_getD, List.getElem?_eq_none (by show 14 ≤ k; omega)]; rfl
    rw [this]; simp
/-- a field, by its number -/
def fldz (x : InsZ) (i : Nat) : Int := if i = 0 then x.a else if i = 1 then x.b else x.c
/-- not too many digits -/
def ShN (n : Int) : Prop := -999999999999999999 ≤ n ∧ n ≤ 999999999999999999
instance (n : Int) : Decidable (ShN n) := by unfold ShN; exact inferInstance
/-- can a field be written? -/
def WrF (x : InsZ) (i : Nat) : Prop := (fSl x.op.toNat i = 0 → fldz x i = 0) ∧ ShN (fldz x i)
instance (x : InsZ) (i : Nat) : Decidable (WrF x i) := by unfold WrF; exact inferInstance
/-- can an instruction be written? -/
def WrI (x : InsZ) : Prop := (0 ≤ x.op ∧ x.op < 14) ∧ ∀ i, i < 3 → WrF x i
instance (x : InsZ) : Decidable (WrI x) := by unfold WrI; exact inferInstance
/-- can code be written? -/
def WrC (size : Int) (L : List InsZ) : Prop := ShN size ∧ ∀ k, k < L.length → WrI (insat L k)
instance (size : Int) (L : List InsZ) : Decidable (WrC size L) := by unfold WrC; exact inferInstance
/-- is something written as a label? -/
def ToL (n : Nat) (v : Int) : Prop := 0 ≤ v ∧ v ≤ (n : Int)
instance (n : Nat) (v : Int) : Decidable (ToL n v) := by unfold ToL; exact inferInstance
/-- does some field, ahead of a place, go to k? -/
def Mk (L : List InsZ) (m i k : Nat) : Prop := ∃ m', m' < m + 1 ∧ ∃ i', i' < 3 ∧ (m' < m ∨ i' < i) ∧ fSl (insat L m').op.toNat i' = 2 ∧ fldz (insat L m') i' = (k : Int)
instance (L : List InsZ) (m i k : Nat) : Decidable (Mk L m i k) := by unfold Mk; exact inferInstance
def mkb (L : List InsZ) (m i k : Nat) : Bool := decide (Mk L m i k)
theorem mkb_start (L : List InsZ) (k : Nat) : mkb L 0 0 k = false := by
  unfold mkb
  rw [decide_eq_false]
  rintro ⟨m', _, i', _, h, _⟩
  omega
theorem mkb_next (L : List InsZ) (m k : Nat) : mkb L m 3 k = mkb L (m + 1) 0 k := by
  unfold mkb
  congr 1
  apply propext
  constructor
  · rintro ⟨m', h1, i', h2, h3, h4⟩
    exact ⟨m', by omega, i', h2, .inl (by omega), h4⟩
  · rintro ⟨m', h1, i', h2, h3, h4⟩
    exact ⟨m', by omega, i', h2, by omega, h4⟩
theorem mkb_more (L : List InsZ) (m i k : Nat) (hi : i < 3) : mkb L m (i + 1) k = (mkb L m i k || decide (fSl (insat L m).op.toNat i = 2 ∧ fldz (insat L m) i = (k : Int))) := by
  unfold mkb
  rw [← Bool.decide_or]
  congr 1
  apply propext
  constructor
  · rintro ⟨m', h1, i', h2, h3, h4⟩
    by_cases e : m' = m ∧ i' = i
    · obtain ⟨rfl, rfl⟩ := e; exact .inr h4
    · exact .inl ⟨m', h1, i', h2, by omega, h4⟩
  · rintro (⟨m', h1, i', h2, h3, h4⟩ | h)
    · exact ⟨m', h1, i', h2, by omega, h4⟩
    · exact ⟨m, by omega, i, hi, .inr (by omega), h⟩

/-- the text -/
def lblT (k : Int) : List UInt8 := 108 :: Lib.itoa k
def argT (n s : Nat) (v : Int) : List UInt8 := if s = 0 then [] else if s = 2 ∧ ToL n v then 32 :: lblT v else 32 :: Lib.itoa v
def insT (n : Nat) (x : InsZ) : Nat → List UInt8
  | 0 => fWd x.op.toNat
  | i + 1 => insT n x i ++ argT n (fSl x.op.toNat i) (fldz x i)
def lnT (L : List InsZ) (k : Nat) : List UInt8 := if mkb L L.length 0 k then lblT k ++ [58, 10] else []
def bodT (size : Int) (L : List InsZ) : Nat → List UInt8
  | 0 => [115, 105, 122, 101, 32] ++ Lib.itoa size ++ [10]
  | k + 1 => bodT size L k ++ lnT L k ++ (insT L.length (insat L k) 3 ++ [10])
def prT (size : Int) (L : List InsZ) : List UInt8 := bodT size L L.length ++ lnT L L.length

theorem itz_len (n : Int) (h : ShN n ∨ (0 ≤ n ∧ n ≤ 999999)) : (Lib.itoa n).length ≤ 21 := Lib.itoa_length_le n (by unfold ShN at h; omega) (by unfold ShN at h; omega)
theorem fWd_len (k : Nat) : (fWd k).length ≤ 4 := by
  unfold fWd
  by_cases h : k < 14
  · have h1 : ∀ k, k < 14 → (fWds.getD k []).length ≤ 4 := by decide
    exact h1 k h
  · have : fWds.getD k [] = [] := by rw [List.getD_eq_getElem?_getD, List.getElem?_eq_none (by show 14 ≤ k; omega)]; rfl
    rw [this]; simp
theorem argT_len (n s : Nat) (v : Int) (h : ShN v) : (argT n s v).length ≤ 23 := by
  have := itz_len v (.inl h)
  unfold argT lblT
  repeat' split
  all_goals simp
  all_goals omega
theorem insT_len (n : Nat) (x : InsZ) (h : ∀ i, i < 3 → WrF x i) : ∀ i, i ≤ 3 → (insT n x i).length ≤ 4 + 23 * i
  | 0, _ => by unfold insT; have := fWd_len x.op.toNat; omega
  | i + 1, hi => by
    have h1 := insT_len n x h i (by omega)
    have h2 := argT_len n (fSl x.op.toNat i) (fldz x i) (h i (by omega)).2
    unfold insT
    rw [List.length_append]
    omega
theorem lnT_len (L : List InsZ) (k : Nat) (h : k ≤ 4096) : (lnT L k).length ≤ 24 := by
  have := itz_len (k : Int) (.inr (by omega))
  unfold lnT lblT
  split
  · simp; omega
  · simp
theorem bodT_len (size : Int) (L : List InsZ) (h : WrC size L) (hn : L.length ≤ 4096) : ∀ k, k ≤ L.length → (bodT size L k).length ≤ 30 + 100 * k
  | 0, _ => by unfold bodT; have := itz_len size (.inl h.1); simp; omega
  | k + 1, hk => by
    have h1 := bodT_len size L h hn k (by omega)
    have h2 := insT_len L.length (insat L k) (h.2 k (by omega)).2 3 (by omega)
    have h5 := lnT_len L k (by omega)
    unfold bodT
    simp only [List.length_append, List.length_cons, List.length_nil]
    omega

theorem isShort_any (n : Int) (w : World) : Calls Tryd.prog 16 #[.int .i64 n] w fun e w' => e = .returned (.bool (decide (ShN n))) ∧ w' = w := by
  by_cases h1 : n ≥ -999999999999999999
  · have h1' : (-999999999999999999 : Int) ≤ n := h1
    by_cases h2 : n ≤ 999999999999999999
    · have h3 : decide (ShN n) = true := decide_eq_true ⟨h1, h2⟩
      rw [h3]
      go_enter Tryd.func16, Tryd.ntmps16
      go_wp2_with fail
      go_ret
      exact ⟨rfl, rfl⟩
    · have h3 : decide (ShN n) = false := decide_eq_false fun h => h2 h.2
      rw [h3]
      go_enter Tryd.func16, Tryd.ntmps16
      go_wp2_with fail
      go_ret
      exact ⟨rfl, rfl⟩
  · have h1' : ¬ (-999999999999999999 : Int) ≤ n := h1
    have h3 : decide (ShN n) = false := decide_eq_false fun h => h1 h.1
    rw [h3]
    go_enter Tryd.func16, Tryd.ntmps16
    go_wp2_with fail
    go_ret
    exact ⟨rfl, rfl⟩
theorem rfits11_any (n : Int) (w : World) : Calls Tryd.prog 9 #[.int .i64 n] w fun e w' => e = .returned (.bool (decide (ShN n))) ∧ w' = w := by
  by_cases h2 : n ≤ 999999999999999999
  · by_cases h1 : -999999999999999999 ≤ n
    · have h3 : decide (ShN n) = true := decide_eq_true ⟨h1, h2⟩
      rw [h3]
      go_enter Tryd.func9, Tryd.ntmps9
      go_wp2_with fail
      go_ret
      exact ⟨rfl, rfl⟩
    · have h3 : decide (ShN n) = false := decide_eq_false fun h => h1 h.1
      rw [h3]
      go_enter Tryd.func9, Tryd.ntmps9
      go_wp2_with fail
      go_ret
      exact ⟨rfl, rfl⟩
  · have h3 : decide (ShN n) = false := decide_eq_false fun h => h2 h.2
    rw [h3]
    go_enter Tryd.func9, Tryd.ntmps9
    go_wp2_with fail
    go_ret
    exact ⟨rfl, rfl⟩
theorem isOp_any (n : Int) (w : World) : Calls Tryd.prog 17 #[.int .i64 n] w fun e w' => e = .returned (.bool (decide (0 ≤ n ∧ n < 14))) ∧ w' = w := by
  by_cases h1 : 0 ≤ n
  · by_cases h2 : n < 14
    · have h3 : decide (0 ≤ n ∧ n < 14) = true := decide_eq_true ⟨h1, h2⟩
      rw [h3]
      go_enter Tryd.func17, Tryd.ntmps17
      go_wp2_with fail
      go_ret
      exact ⟨rfl, rfl⟩
    · have h3 : decide (0 ≤ n ∧ n < 14) = false := decide_eq_false fun h => h2 h.2
      rw [h3]
      go_enter Tryd.func17, Tryd.ntmps17
      go_wp2_with fail
      go_ret
      exact ⟨rfl, rfl⟩
  · have h3 : decide (0 ≤ n ∧ n < 14) = false := decide_eq_false fun h => h1 h.1
    rw [h3]
    go_enter Tryd.func17, Tryd.ntmps17
    go_wp2_with fail
    go_ret
    exact ⟨rfl, rfl⟩
theorem hasLabel_any (v : Int) (n : Nat) (w : World) : Calls Tryd.prog 29 #[.int .i64 v, .int .i64 (n : Int)] w fun e w' => e = .returned (.bool (decide (ToL n v))) ∧ w' = w := by
  by_cases h1 : 0 ≤ v
  · by_cases h2 : v ≤ (n : Int)
    · have h3 : decide (ToL n v) = true := decide_eq_true ⟨h1, h2⟩
      rw [h3]
      go_enter Tryd.func29, Tryd.ntmps29
      go_wp2_with fail
      go_ret
      exact ⟨rfl, rfl⟩
    · have h3 : decide (ToL n v) = false := decide_eq_false fun h => h2 h.2
      rw [h3]
      go_enter Tryd.func29, Tryd.ntmps29
      go_wp2_with fail
      go_ret
      exact ⟨rfl, rfl⟩
  · have h3 : decide (ToL n v) = false := decide_eq_false fun h => h1 h.1
    rw [h3]
    go_enter Tryd.func29, Tryd.ntmps29
    go_wp2_with fail
    go_ret
    exact ⟨rfl, rfl⟩

end Go.Proofs.YtjibpfdhaejfdaaDoor

namespace Go.Proofs.YtjibpfdhaejfdaaDoor
open Go.RowKit

section
variable {P : Program} {ops : Array Oper} {Q : Exit → Act → World → Prop} {md : Region.Mode} {S : World → Prop}
theorem drop_atU {i : Nat} {oi : Oper} {rest : List Oper} (hl : ops.toList.drop i = oi :: rest) : ops[i]? = some oi := by
  have := congrArg (fun l => l[0]?) hl
  simpa [List.getElem?_drop] using this
theorem wpAnyH_takeU {i : Nat} {oi : Oper} {rest : List Oper} {v : Value} {fuel : Nat} {listed : Array Bool} {a : Act} {w : World} (hl : ops.toList.drop i = oi :: rest)
    (hs : Region.noSelect ops = true) (hf : Region.free md ops listed i = true) (hr : (Region.ready md ops listed).contains i = true)
    (hQ : ∀ c a w, Q (.panic c) (a.put oi.dst v) w → Q (.panic c) a w) (hw : Region.wanted oi (yielded ops a.tmps) = true) (hy : ∀ w, S w → (execOp a.eval oi).run P w = .ok (.value v) w) (hS : S w)
    (h : wpAnyH P md ops Q S fuel (listed.setIfInBounds i true) (a.put oi.dst v) w) : wpAnyH P md ops Q S (fuel + 1) listed a w :=
  wpAnyH_take (drop_atU hl) hs hf hr hQ (Or.inl ⟨hw, hy⟩) hS h
theorem AllReadyH.consU {fuel : Nat} {listed : Array Bool} {a : Act} {w : World} {i : Nat} {o : Oper} {rest : List Oper} {rs : List Nat} (hl : ops.toList.drop i = o :: rest)
    (h : ∀ K' : Act → World → Prop, Shut (∀ a w, S w → (S w → wpAnyH P md ops Q S fuel (listed.setIfInBounds i true) a w) → K' a w) → if Region.wanted o (yielded ops a.tmps) = true then Oper.wp P o a w K' Q else K' (a.put o.dst undef) w)
    (hs : AllReadyH P md ops Q S fuel listed a w rs) : AllReadyH P md ops Q S fuel listed a w (i :: rs) := AllReadyH.cons (drop_atU hl) h hs
end
end Go.Proofs.YtjibpfdhaejfdaaDoor
