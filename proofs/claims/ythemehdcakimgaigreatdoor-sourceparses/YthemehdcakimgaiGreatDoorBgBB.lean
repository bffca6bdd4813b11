/- The reference of programs as text: programs at work. The reference of programs as text: how tightly an expression holds. Programs as text: how an expression is written; the reference's shown. Programs as text: how long an expression is, written. -/
import Derived.Test.YthemehdcakimgaiGreatDoorBgBA
import Derived.Test.YthemehdcakimgaiGreatDoorSpgs
namespace Go.Proofs.YthemehdcakimgaiGreatDoor
open Go.RowKit

/-- the functions of a program at work lie still -/
structure ECx (V : Nat) (a : Option Addr) (fs : List FnT) (Xs : List Nat) (w : World) : Prop where
  len : Xs.length = fs.length
  fn : ∀ (i : Nat) (g : FnT) (X : Nat), fs[i]? = some g → Xs[i]? = some X → (∃ k, a = some ⟨k, 0, none⟩ ∧ k < V ∧ w.cell? ⟨k, i, none⟩ = some (.pointer (some ⟨X, 0, none⟩))) ∧ RFnB (fun b => b < V) w g X
theorem ECx.fr {V : Nat} {a : Option Addr} {fs : List FnT} {Xs : List Nat} {w w' : World} (h : ECx V a fs Xs w) (f : Fr V w w') : ECx V a fs Xs w' := ⟨h.len, fun i g X hg hX => by
  obtain ⟨⟨k, k1, k2, k3⟩, h2⟩ := h.fn i g X hg hX
  exact ⟨⟨k, k1, k2, f.cell (by omega) k3⟩, h2.keep (fun b hb hl => ⟨hb, f.2 b hl (by omega)⟩)⟩⟩
theorem XTB.fr {V : Nat} {w w' : World} {t : Tr} {v : Value} (h : XTB (fun b => b < V) w t v) (f : Fr V w w') : XTB (fun b => b < V) w' t v := XTB.keep (fun b hb hl => ⟨hb, f.2 b hl (by omega)⟩) t v h
theorem op_number : ∀ k, k < 12 → (opS k == [110, 117, 109, 98, 101, 114]) = decide (k = 0) := by decide
theorem op_neg : ∀ k, k < 12 → (opS k == [110, 101, 103]) = decide (k = 3) := by decide
theorem op_if : ∀ k, k < 12 → (opS k == [105, 102]) = decide (k = 11) := by decide
theorem op_need : ∀ k, k < 12 → (opS k == [110, 101, 101, 100]) = decide (k = 10) := by decide
theorem op_add : ∀ k, k < 12 → (opS k == [43]) = decide (k = 4) := by decide
theorem op_sub : ∀ k, k < 12 → (opS k == [45]) = decide (k = 5) := by decide
theorem op_mul : ∀ k, k < 12 → (opS k == [42]) = decide (k = 6) := by decide
theorem op_div : ∀ k, k < 12 → (opS k == [47]) = decide (k = 7) := by decide

end Go.Proofs.YthemehdcakimgaiGreatDoor

namespace Go.Proofs.YthemehdcakimgaiGreatDoor
open Go.RowKit

theorem op_eq : ∀ k, k < 12 → (opS k == [61, 61]) = decide (k = 8) := by decide
/-- how tightly a kind holds -/
def hld (k : Nat) : Nat := if k < 4 then 4 else if k < 6 then 2 else if k < 8 then 3 else if k = 8 then 1 else 0

set_option maxRecDepth 100000 in
set_option maxHeartbeats 2000000 in
theorem rholds_any (B : Nat → Prop) (kd : Nat) (nm : List UInt8) (at' nn : Nat) (kids : List Tr) (x : Value) (w : World) (hk12 : kd < 12) (hX : XTB B w (.node kd nm at' nn kids) x) : Calls Tryz.prog 43 #[x] w fun e w' => e = .returned (.int .i64 (hld kd : Int)) ∧ w' = w := by
  obtain ⟨b, ax, cx, A, rfl, hb, hh, hA, hK⟩ := hX
  have q9 : ((bs (opS kd)).toList == [108, 101, 116]) = decide (kd = 9) := by rw [bs_list]; exact op_let kd hk12
  have q10 : ((bs (opS kd)).toList == [110, 101, 101, 100]) = decide (kd = 10) := by rw [bs_list]; exact op_need kd hk12
  have q11 : ((bs (opS kd)).toList == [105, 102]) = decide (kd = 11) := by rw [bs_list]; exact op_if kd hk12
  have q8 : ((bs (opS kd)).toList == [61, 61]) = decide (kd = 8) := by rw [bs_list]; exact op_eq kd hk12
  have q4 : ((bs (opS kd)).toList == [43]) = decide (kd = 4) := by rw [bs_list]; exact op_add kd hk12
  have q5 : ((bs (opS kd)).toList == [45]) = decide (kd = 5) := by rw [bs_list]; exact op_sub kd hk12
  have q6 : ((bs (opS kd)).toList == [42]) = decide (kd = 6) := by rw [bs_list]; exact op_mul kd hk12
  have q7 : ((bs (opS kd)).toList == [47]) = decide (kd = 7) := by rw [bs_list]; exact op_div kd hk12
  have e0 : w.cell? ⟨b, 0, none⟩ = some (.string (bs (opS kd))) := by simp [World.cell?, hh]
  generalize bs (opS kd) = op at *
  clear hh hb hA hK
  by_cases k0 : kd = 0
  · rw [decide_eq_false (by omega)] at q9
    rw [decide_eq_false (by omega)] at q10
    rw [decide_eq_false (by omega)] at q11
    rw [decide_eq_false (by omega)] at q8
    rw [decide_eq_false (by omega)] at q4
    rw [decide_eq_false (by omega)] at q5
    rw [decide_eq_false (by omega)] at q6
    rw [decide_eq_false (by omega)] at q7
    have HE : Hid ((hld kd : Int) = 4) := by unfold Hid; rw [k0]; rfl
    clear hk12 k0
    go_enter Tryz.func43, Tryz.ntmps43
    go_wp2_with fail
    go_ret
    exact ⟨by rw [HE.out]; rfl, rfl⟩
  by_cases k1 : kd = 1
  · rw [decide_eq_false (by omega)] at q9
    rw [decide_eq_false (by omega)] at q10
    rw [decide_eq_false (by omega)] at q11
    rw [decide_eq_false (by omega)] at q8
    rw [decide_eq_false (by omega)] at q4
    rw [decide_eq_false (by omega)] at q5
    rw [decide_eq_false (by omega)] at q6
    rw [decide_eq_false (by omega)] at q7
    have HE : Hid ((hld kd : Int) = 4) := by unfold Hid; rw [k1]; rfl
    clear hk12 k0 k1
    go_enter Tryz.func43, Tryz.ntmps43
    go_wp2_with fail
    go_ret
    exact ⟨by rw [HE.out]; rfl, rfl⟩
  by_cases k2 : kd = 2
  · rw [decide_eq_false (by omega)] at q9
    rw [decide_eq_false (by omega)] at q10
    rw [decide_eq_false (by omega)] at q11
    rw [decide_eq_false (by omega)] at q8
    rw [decide_eq_false (by omega)] at q4
    rw [decide_eq_false (by omega)] at q5
    rw [decide_eq_false (by omega)] at q6
    rw [decide_eq_false (by omega)] at q7
    have HE : Hid ((hld kd : Int) = 4) := by unfold Hid; rw [k2]; rfl
    clear hk12 k0 k1 k2
    go_enter Tryz.func43, Tryz.ntmps43
    go_wp2_with fail
    go_ret
    exact ⟨by rw [HE.out]; rfl, rfl⟩
  by_cases k3 : kd = 3
  · rw [decide_eq_false (by omega)] at q9
    rw [decide_eq_false (by omega)] at q10
    rw [decide_eq_false (by omega)] at q11
    rw [decide_eq_false (by omega)] at q8
    rw [decide_eq_false (by omega)] at q4
    rw [decide_eq_false (by omega)] at q5
    rw [decide_eq_false (by omega)] at q6
    rw [decide_eq_false (by omega)] at q7
    have HE : Hid ((hld kd : Int) = 4) := by unfold Hid; rw [k3]; rfl
    clear hk12 k0 k1 k2 k3
    go_enter Tryz.func43, Tryz.ntmps43
    go_wp2_with fail
    go_ret
    exact ⟨by rw [HE.out]; rfl, rfl⟩
  by_cases k4 : kd = 4
  · rw [decide_eq_false (by omega)] at q9
    rw [decide_eq_false (by omega)] at q10
    rw [decide_eq_false (by omega)] at q11
    rw [decide_eq_false (by omega)] at q8
    rw [decide_eq_true (by omega)] at q4
    rw [decide_eq_false (by omega)] at q5
    rw [decide_eq_false (by omega)] at q6
    rw [decide_eq_false (by omega)] at q7
    have HE : Hid ((hld kd : Int) = 2) := by unfold Hid; rw [k4]; rfl
    clear hk12 k0 k1 k2 k3 k4
    go_enter Tryz.func43, Tryz.ntmps43
    go_wp2_with fail
    go_ret
    exact ⟨by rw [HE.out]; rfl, rfl⟩
  by_cases k5 : kd = 5
  · rw [decide_eq_false (by omega)] at q9
    rw [decide_eq_false (by omega)] at q10
    rw [decide_eq_false (by omega)] at q11
    rw [decide_eq_false (by omega)] at q8
    rw [decide_eq_false (by omega)] at q4
    rw [decide_eq_true (by omega)] at q5
    rw [decide_eq_false (by omega)] at q6
    rw [decide_eq_false (by omega)] at q7
    have HE : Hid ((hld kd : Int) = 2) := by unfold Hid; rw [k5]; rfl
    clear hk12 k0 k1 k2 k3 k4 k5
    go_enter Tryz.func43, Tryz.ntmps43
    go_wp2_with fail
    go_ret
    exact ⟨by rw [HE.out]; rfl, rfl⟩
  by_cases k6 : kd = 6
  · rw [decide_eq_false (by omega)] at q9
    rw [decide_eq_false (by omega)] at q10
    rw [decide_eq_false (by omega)] at q11
    rw [decide_eq_false (by omega)] at q8
    rw [decide_eq_false (by omega)] at q4
    rw [decide_eq_false (by omega)] at q5
    rw [decide_eq_true (by omega)] at q6
    rw [decide_eq_false (by omega)] at q7
    have HE : Hid ((hld kd : Int) = 3) := by unfold Hid; rw [k6]; rfl
    clear hk12 k0 k1 k2 k3 k4 k5 k6
    go_enter Tryz.func43, Tryz.ntmps43
    go_wp2_with fail
    go_ret
    exact ⟨by rw [HE.out]; rfl, rfl⟩
  by_cases k7 : kd = 7
  · rw [decide_eq_false (by omega)] at q9
    rw [decide_eq_false (by omega)] at q10
    rw [decide_eq_false (by omega)] at q11
    rw [decide_eq_false (by omega)] at q8
    rw [decide_eq_false (by omega)] at q4
    rw [decide_eq_false (by omega)] at q5
    rw [decide_eq_false (by omega)] at q6
    rw [decide_eq_true (by omega)] at q7
    have HE : Hid ((hld kd : Int) = 3) := by unfold Hid; rw [k7]; rfl
    clear hk12 k0 k1 k2 k3 k4 k5 k6 k7
    go_enter Tryz.func43, Tryz.ntmps43
    go_wp2_with fail
    go_ret
    exact ⟨by rw [HE.out]; rfl, rfl⟩
  by_cases k8 : kd = 8
  · rw [decide_eq_false (by omega)] at q9
    rw [decide_eq_false (by omega)] at q10
    rw [decide_eq_false (by omega)] at q11
    rw [decide_eq_true (by omega)] at q8
    rw [decide_eq_false (by omega)] at q4
    rw [decide_eq_false (by omega)] at q5
    rw [decide_eq_false (by omega)] at q6
    rw [decide_eq_false (by omega)] at q7
    have HE : Hid ((hld kd : Int) = 1) := by unfold Hid; rw [k8]; rfl
    clear hk12 k0 k1 k2 k3 k4 k5 k6 k7 k8
    go_enter Tryz.func43, Tryz.ntmps43
    go_wp2_with fail
    go_ret
    exact ⟨by rw [HE.out]; rfl, rfl⟩
  by_cases k9 : kd = 9
  · rw [decide_eq_true (by omega)] at q9
    rw [decide_eq_false (by omega)] at q10
    rw [decide_eq_false (by omega)] at q11
    rw [decide_eq_false (by omega)] at q8
    rw [decide_eq_false (by omega)] at q4
    rw [decide_eq_false (by omega)] at q5
    rw [decide_eq_false (by omega)] at q6
    rw [decide_eq_false (by omega)] at q7
    have HE : Hid ((hld kd : Int) = 0) := by unfold Hid; rw [k9]; rfl
    clear hk12 k0 k1 k2 k3 k4 k5 k6 k7 k8 k9
    go_enter Tryz.func43, Tryz.ntmps43
    go_wp2_with fail
    go_ret
    exact ⟨by rw [HE.out]; rfl, rfl⟩
  by_cases k10 : kd = 10
  · rw [decide_eq_false (by omega)] at q9
    rw [decide_eq_true (by omega)] at q10
    rw [decide_eq_false (by omega)] at q11
    rw [decide_eq_false (by omega)] at q8
    rw [decide_eq_false (by omega)] at q4
    rw [decide_eq_false (by omega)] at q5
    rw [decide_eq_false (by omega)] at q6
    rw [decide_eq_false (by omega)] at q7
    have HE : Hid ((hld kd : Int) = 0) := by unfold Hid; rw [k10]; rfl
    clear hk12 k0 k1 k2 k3 k4 k5 k6 k7 k8 k9 k10
    go_enter Tryz.func43, Tryz.ntmps43
    go_wp2_with fail
    go_ret
    exact ⟨by rw [HE.out]; rfl, rfl⟩
  by_cases k11 : kd = 11
  · rw [decide_eq_false (by omega)] at q9
    rw [decide_eq_false (by omega)] at q10
    rw [decide_eq_true (by omega)] at q11
    rw [decide_eq_false (by omega)] at q8
    rw [decide_eq_false (by omega)] at q4
    rw [decide_eq_false (by omega)] at q5
    rw [decide_eq_false (by omega)] at q6
    rw [decide_eq_false (by omega)] at q7
    have HE : Hid ((hld kd : Int) = 0) := by unfold Hid; rw [k11]; rfl
    clear hk12 k0 k1 k2 k3 k4 k5 k6 k7 k8 k9 k10 k11
    go_enter Tryz.func43, Tryz.ntmps43
    go_wp2_with fail
    go_ret
    exact ⟨by rw [HE.out]; rfl, rfl⟩
  omega

end Go.Proofs.YthemehdcakimgaiGreatDoor

namespace Go.Proofs.YthemehdcakimgaiGreatDoor
open Go.RowKit

/-- in brackets, where it does not hold tightly enough -/
def par (h least : Nat) (s : List UInt8) : List UInt8 := if h < least then [40] ++ s ++ [41] else s
def knd : Tr → Nat
  | .node k _ _ _ _ => k
/-- a part's text, where it has to hold so tightly -/
def kt (ks : List (Nat × List UInt8)) (i least : Nat) : List UInt8 := match ks[i]? with
  | some x => par x.1 least x.2
  | none => []
/-- with commas -/
def jnC (ks : List (Nat × List UInt8)) : Nat → List UInt8
  | 0 => []
  | j + 1 => jnC ks j ++ (if 0 < j then [44, 32] else []) ++ kt ks j 0
/-- an expression of its parts' texts; it: how a number is written -/
def inK (it : Nat → List UInt8) (k : Nat) (nm : List UInt8) (n : Nat) (ks : List (Nat × List UInt8)) : List UInt8 :=
  if k = 0 then it n else if k = 1 then nm else if k = 2 then nm ++ [40] ++ jnC ks ks.length ++ [41]
  else if k = 3 then [45] ++ kt ks 0 4
  else if k = 9 then [108, 101, 116, 32] ++ nm ++ [32, 61, 32] ++ kt ks 0 0 ++ [59, 32] ++ kt ks 1 0
  else if k = 10 then [110, 101, 101, 100, 32] ++ kt ks 0 2 ++ [32, 61, 61, 32] ++ kt ks 1 2 ++ [59, 32] ++ kt ks 2 0
  else if k = 11 then [105, 102, 32] ++ kt ks 0 0 ++ [32, 116, 104, 101, 110, 32] ++ kt ks 1 0 ++ [32, 101, 108, 115, 101, 32] ++ kt ks 2 0
  else if k = 8 then kt ks 0 2 ++ [32, 61, 61, 32] ++ kt ks 1 2
  else kt ks 0 (hld k) ++ [32] ++ opS k ++ [32] ++ kt ks 1 (hld k + 1)
mutual
/-- an expression as text -/
def inT (it : Nat → List UInt8) : Tr → List UInt8
  | .node k nm _ n kids => inK it k nm n (inTs it kids)
def inTs (it : Nat → List UInt8) : List Tr → List (Nat × List UInt8)
  | [] => []
  | t :: r => (hld (knd t), inT it t) :: inTs it r
end
theorem inTs_at (it : Nat → List UInt8) : ∀ (ts : List Tr) (i : Nat), (inTs it ts)[i]? = ts[i]?.map fun t => (hld (knd t), inT it t)
  | [], i => by simp [inTs]
  | t :: r, 0 => by simp [inTs]
  | t :: r, i + 1 => by rw [inTs]; simp [inTs_at it r i]
theorem inTs_len (it : Nat → List UInt8) : ∀ (ts : List Tr), (inTs it ts).length = ts.length
  | [] => by simp [inTs]
  | t :: r => by rw [inTs]; simp [inTs_len it r]
theorem kt_at (it : Nat → List UInt8) {ts : List Tr} {i : Nat} {t : Tr} (h : ts[i]? = some t) (least : Nat) : kt (inTs it ts) i least = par (hld (knd t)) least (inT it t) := by
  unfold kt; rw [inTs_at, h]; rfl
/-- what inner does -/
def INN (it : Nat → List UInt8) (Ctx : World → Prop) (B : Nat → Prop) (N : Nat) : Prop := ∀ (t : Tr) (x : Value) (w : World), tsz t ≤ N → TW t → Ctx w → XTB B w t x → Calls Tryz.prog 42 #[x] w fun e w' => e = .returned (.string (bs (inT it t))) ∧ Below w.heap.size w w'

set_option maxRecDepth 100000 in
set_option maxHeartbeats 1000000 in
theorem rshown_of (it : Nat → List UInt8) (Ctx : World → Prop) (B : Nat → Prop) (N : Nat) (hI : INN it Ctx B N) (t : Tr) (x : Value) (w : World) (least : Nat) (hN : tsz t ≤ N) (hT : TW t) (hC : Ctx w) (hX : XTB B w t x) (hS : (inT it t).length ≤ 100000000) :
    Calls Tryz.prog 22 #[x, .int .i64 (least : Int)] w fun e w' => e = .returned (.string (bs (par (hld (knd t)) least (inT it t)))) ∧ Below w.heap.size w w' := by
  have HI := hid (hI t x w hN hT hC hX)
  obtain ⟨kd, nm, at', nn, kids⟩ := t
  have hk12 : kd < 12 := shp_lt hT.1
  have HH := hid (fun (W : World) (hb : Below w.heap.size w W) => rholds_any (fun _ => True) kd nm at' nn kids x W hk12 (XTB.keep (fun b _ hl => ⟨trivial, hb.block b hl⟩) _ _ hX))
  obtain ⟨xb, rfl⟩ := hX.form
  rw [show knd (.node kd nm at' nn kids) = kd from rfl]
  generalize inT it (.node kd nm at' nn kids) = s at *
  generalize hld kd = h at *
  have hz : (bs s).size ≤ 100000000 := by rw [bs_size]; exact hS
  clear hI hT hC hX hk12 hN hS
  by_cases hlt : h < least
  · have q : (h : Int) < (least : Int) := by omega
    have HE : Hid (bs (par h least s) = (⟨#[40]⟩ : ByteArray) ++ bs s ++ (⟨#[41]⟩ : ByteArray)) := by
      unfold Hid par
      rw [if_pos hlt, ← bs_app, ← bs_app]
      rfl
    generalize bs (par h least s) = S at *
    generalize bs s = S0 at *
    have z1 : ¬ 9223372036854775807 < 1 + S0.size := by omega
    have z2 : ¬ 9223372036854775807 < 1 + S0.size + 1 := by omega
    clear hlt hz
    go_enter Tryz.func22, Tryz.ntmps22
    go_wp2_with fail
    refine HI.out.mono ?_
    rintro e w1 ⟨rfl, hb1⟩
    have HB1 := hid hb1
    have HH1 := hid (HH.out w1 hb1)
    clear hb1 HI HH
    go_wp2_with fail
    refine HH1.out.mono ?_
    rintro e w2 ⟨rfl, hw⟩
    have hw2 := hw.symm
    subst hw2
    go_wp2_with fail
    go_ret
    exact ⟨by rw [HE.out]; rfl, HB1.out⟩
  · have q : ¬ (h : Int) < (least : Int) := by omega
    have HE : Hid (par h least s = s) := by unfold Hid par; rw [if_neg hlt]
    rw [HE.out]
    generalize bs s = S0 at *
    clear hlt hz
    go_enter Tryz.func22, Tryz.ntmps22
    go_wp2_with fail
    refine HI.out.mono ?_
    rintro e w1 ⟨rfl, hb1⟩
    have HB1 := hid hb1
    have HH1 := hid (HH.out w1 hb1)
    clear hb1 HI HH
    go_wp2_with fail
    refine HH1.out.mono ?_
    rintro e w2 ⟨rfl, hw⟩
    have hw2 := hw.symm
    subst hw2
    go_wp2_with fail
    go_ret
    exact ⟨rfl, HB1.out⟩

end Go.Proofs.YthemehdcakimgaiGreatDoor

namespace Go.Proofs.YthemehdcakimgaiGreatDoor
open Go.RowKit

def smL : List (Nat × List UInt8) → Nat
  | [] => 0
  | x :: r => x.2.length + 4 + smL r
theorem smL_app : ∀ (xs ys : List (Nat × List UInt8)), smL (xs ++ ys) = smL xs + smL ys
  | [], ys => by simp [smL]
  | x :: xs, ys => by rw [List.cons_append, smL, smL, smL_app xs ys]; omega
theorem par_len (h least : Nat) (s : List UInt8) : (par h least s).length ≤ s.length + 2 := by
  unfold par
  split
  · simp
  · omega
theorem jnC_len (ks : List (Nat × List UInt8)) : ∀ j, j ≤ ks.length → (jnC ks j).length ≤ smL (ks.take j)
  | 0, _ => by simp [jnC]
  | j + 1, h => by
    have ih := jnC_len ks j (by omega)
    have hj : ks[j]? = some (ks[j]'(by omega)) := List.getElem?_eq_getElem (by omega)
    have h1 : ks.take (j + 1) = ks.take j ++ [ks[j]'(by omega)] := by rw [List.take_add_one, hj]; rfl
    have h2 : kt ks j 0 = par (ks[j]'(by omega)).1 0 (ks[j]'(by omega)).2 := by unfold kt; rw [hj]
    have h3 := par_len (ks[j]'(by omega)).1 0 (ks[j]'(by omega)).2
    have h4 : (if 0 < j then [44, 32] else ([] : List UInt8)).length ≤ 2 := by split <;> simp
    rw [jnC, List.length_append, List.length_append, h1, smL_app, h2]
    simp only [smL]
    omega
theorem inK_len (it : Nat → List UInt8) (hit : ∀ n, n ≤ 9223372036854775807 → (it n).length ≤ 20) (k : Nat) (nm : List UInt8) (n : Nat) (ks : List (Nat × List UInt8)) (h : shp k nm n ks.length) : (inK it k nm n ks).length ≤ 40 + smL ks := by
  have hp := fun (h least : Nat) (s : List UInt8) => par_len h least s
  unfold inK
  rcases h with ⟨rfl, _, hn, _⟩ | ⟨rfl, hm, _, _⟩ | ⟨rfl, hm, _, _⟩ | ⟨rfl, _, _, hl⟩ | ⟨h4, h8, _, _, hl⟩ | ⟨rfl, hm, _, hl⟩ | ⟨h10, h11, _, _, hl⟩
  · rw [if_pos rfl]; have := hit n hn; omega
  · rw [if_neg (by decide), if_pos rfl]; have := hm.2.1; omega
  · rw [if_neg (by decide), if_neg (by decide), if_pos rfl]
    have h1 := jnC_len ks ks.length (Nat.le_refl _)
    rw [List.take_length] at h1
    have := hm.2.1
    simp
    omega
  · match ks, hl with
    | [a], _ =>
      simp only [if_neg (show ¬ 3 = 0 by decide), if_neg (show ¬ 3 = 1 by decide), if_neg (show ¬ 3 = 2 by decide), if_pos, kt, smL]
      have := hp a.1 4 a.2
      simp
      omega
  · match ks, hl with
    | [a, b], _ =>
      have ho : (opS k).length ≤ 6 := by
        have : ∀ k, k < 9 → (opS k).length ≤ 6 := by decide
        exact this k (by omega)
      rw [if_neg (by omega), if_neg (by omega), if_neg (by omega), if_neg (by omega), if_neg (by omega), if_neg (by omega), if_neg (by omega)]
      split
      · have h1 := hp a.1 2 a.2
        have h2 := hp b.1 2 b.2
        simp [kt, smL]
        omega
      · have h1 := hp a.1 (hld k) a.2
        have h2 := hp b.1 (hld k + 1) b.2
        simp [kt, smL]
        omega
  · match ks, hl with
    | [a, b], _ =>
      simp only [if_neg (show ¬ 9 = 0 by decide), if_neg (show ¬ 9 = 1 by decide), if_neg (show ¬ 9 = 2 by decide), if_neg (show ¬ 9 = 3 by decide), if_pos]
      have h1 := hp a.1 0 a.2
      have h2 := hp b.1 0 b.2
      have := hm.2.1
      simp [kt, smL]
      omega
  · match ks, hl with
    | [a, b, c], _ =>
      rw [if_neg (by omega), if_neg (by omega), if_neg (by omega), if_neg (by omega), if_neg (by omega)]
      split
      · have h1 := hp a.1 2 a.2
        have h2 := hp b.1 2 b.2
        have h3 := hp c.1 0 c.2
        simp [kt, smL]
        omega
      · rw [if_pos (by omega)]
        have h1 := hp a.1 0 a.2
        have h2 := hp b.1 0 b.2
        have h3 := hp c.1 0 c.2
        simp [kt, smL]
        omega
mutual
theorem inT_len (it : Nat → List UInt8) (hit : ∀ n, n ≤ 9223372036854775807 → (it n).length ≤ 20) : ∀ (t : Tr), TW t → (inT it t).length + 4 ≤ 44 * tsz t
  | .node k nm at' n kids, h => by
    obtain ⟨h1, h2⟩ := h
    have h3 := inTs_smL it hit kids h2
    have h4 := inK_len it hit k nm n (inTs it kids) (by rw [inTs_len]; exact h1)
    rw [inT, tsz]
    omega
theorem inTs_smL (it : Nat → List UInt8) (hit : ∀ n, n ≤ 9223372036854775807 → (it n).length ≤ 20) : ∀ (ts : List Tr), TWs ts → smL (inTs it ts) ≤ 44 * tszs ts
  | [], _ => by simp [inTs, smL]
  | t :: r, h => by
    have h1 := inT_len it hit t h.1
    have h2 := inTs_smL it hit r h.2
    rw [inTs, smL, tszs]
    dsimp only
    omega
end

end Go.Proofs.YthemehdcakimgaiGreatDoor
