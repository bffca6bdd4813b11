/- Package source: what a program comes to, plainly; a part that is looked at. Package source: values, two after one another. Package source: signs between two parts. -/
import Derived.Test.YtlgcmeachjjmgajGreatDoorBeU
import Derived.Test.YtlgcmeachjjmgajGreatDoorSpgs
namespace Go.Proofs.YtlgcmeachjjmgajGreatDoor
open Go.RowKit

/-- a value and how many parts were looked at; or an end -/
inductive ER (α : Type) where
  | val (x : α) (k : Nat)
  | stop (er : Nat)
  | out
def ER.bind {α β : Type} (r : ER α) (f : α → Nat → ER β) : ER β := match r with
  | .val x k => f x k
  | .stop er => .stop er
  | .out => .out
/-- the function of a name -/
def fnOf (fs : List FnT) (nm : List UInt8) : Option FnT := match nmM fs fs.length nm with
  | some i => fs[i.toNat]?
  | none => none
/-- what parts come to, one after another, under names -/
def evA (f : Tr → Nat → ER Int) : List (List UInt8 × Nat) → List Tr → List (List UInt8 × Int) → Nat → ER (List (List UInt8 × Int))
  | [], _, own, k => .val own k
  | x :: r, t :: ts, own, k => (f t k).bind fun v k2 => evA f r ts ((x.1, v) :: own) k2
  | _ :: _, [], _, _ => .out
/-- what a sign makes of two numbers; 0: it is stuck -/
def rknS (p : Nat) (kd : Nat) (a b : Int) (k : Nat) : ER Int :=
  if kd = 4 then .val ((a + b) % (p : Int)) k else if kd = 5 then .val ((a - b) % (p : Int)) k else if kd = 6 then .val (a * b % (p : Int)) k
  else if kd = 7 then (if b = 0 then .stop 7 else .val (a * (invn p b : Int) % (p : Int)) k) else .val (if a = b then 1 else 0) k
/-- what an expression comes to -/
def evl (p : Nat) (fs : List FnT) (fuel : Nat) : Nat → Tr → List (List UInt8 × Int) → Nat → ER Int
  | 0, _, _, _ => .out
  | R + 1, .node kd nm _ n kids, sc, k =>
    if k = fuel then .stop 8 else
    if kd = 0 then .val ((n : Int) % (p : Int)) (k + 1)
    else if kd = 1 then (match sc.find? (fun x => x.1 == nm) with | some x => .val x.2 (k + 1) | none => .out)
    else if kd = 2 then (match fnOf fs nm with
      | some g => (evA (fun t k => evl p fs fuel R t sc k) g.more kids [] (k + 1)).bind fun own k2 => evl p fs fuel R g.body own k2
      | none => .out)
    else match kids with
      | [a] => if kd = 3 then (evl p fs fuel R a sc (k + 1)).bind fun x k2 => .val ((0 - x) % (p : Int)) k2 else .out
      | [a, b] => if kd = 9 then (evl p fs fuel R a sc (k + 1)).bind fun x k2 => evl p fs fuel R b ((nm, x) :: sc) k2
        else (evl p fs fuel R a sc (k + 1)).bind fun x k2 => (evl p fs fuel R b sc k2).bind fun y k3 => rknS p kd x y k3
      | [a, b, c] => if kd = 10 then (evl p fs fuel R a sc (k + 1)).bind fun x k2 => (evl p fs fuel R b sc k2).bind fun y k3 => if x = y then evl p fs fuel R c sc k3 else .stop 7
        else if kd = 11 then (evl p fs fuel R a sc (k + 1)).bind fun x k2 => if x = 0 then evl p fs fuel R c sc k2 else evl p fs fuel R b sc k2 else .out
      | _ => .out

/-- an end of a program -/
def pncE (er : Nat) : Ending := .panicked [{ v := .iface 145 (.agg #[.int .i64 (er : Int)]), recovered := false }]
/-- a program at work, in memory -/
def EvAt (w : World) (V fb pg k fuel : Nat) : Prop := w.heap[V]? = some (.cells #[.pointer (some ⟨fb, 0, none⟩), .pointer (some ⟨pg, 0, none⟩), .int .i64 (k : Int), .int .i64 (fuel : Int)] 96 (0, 0))
/-- how a part of the work ends -/
def EvP {α : Type} (enc : α → Value) (V fb pg fuel : Nat) (w : World) (r : ER α) (e : Ending) (w' : World) : Prop := Fr V w w' ∧ match r with
  | .val x k => e = .returned (enc x) ∧ EvAt w' V fb pg k fuel
  | .stop er => e = pncE er
  | .out => False

theorem EvAt.lt {w : World} {V fb pg k fuel : Nat} (h : EvAt w V fb pg k fuel) : V < w.heap.size := (Array.getElem?_eq_some_iff.1 h).1
theorem EvAt.set {w : World} {V fb pg k fuel : Nat} (h : EvAt w V fb pg k fuel) (j : Nat) : EvAt (w.setCell ⟨V, 2, none⟩ (.int .i64 (j : Int))) V fb pg j fuel :=
  heap_setCell_same _ V 2 _ _ _ h
theorem frN (V n : Nat) (w : World) : Fr V w (w.drewN n) := ⟨⟨rfl, rfl, rfl, Nat.le_refl _, fun _ _ => rfl⟩, fun _ _ _ => rfl⟩

set_option maxRecDepth 100000 in
set_option maxHeartbeats 1000000 in
theorem must_any (x : Bool) (w : World) : Calls Tryz.prog 96 #[.bool x] w fun e w' => w' = w ∧ e = if x then .returned (.tuple #[]) else pncE 7 := by
  have hnot : ∀ (x : Bool) (w : World), (Op.unary .not (.bool x)).run Tryz.prog w = .ok (.bool (!x)) w := fun _ _ => rfl
  cases x with
  | true =>
    go_enter Tryz.func96, Tryz.ntmps96
    go_wp2_with fail
    go_end0
    exact ⟨rfl, rfl⟩
  | false =>
    go_enter Tryz.func96, Tryz.ntmps96
    go_wp2_with fail
    exact ⟨rfl, rfl, rfl⟩

set_option maxRecDepth 100000 in
set_option maxHeartbeats 1000000 in
theorem look_any (V fb pg k fuel : Nat) (w : World) (h : EvAt w V fb pg k fuel) (hf : fuel ≤ 1000000) (hk : k ≤ fuel) :
    Calls Tryz.prog 91 #[.pointer (some ⟨V, 0, none⟩)] w (EvP (fun _ : Unit => .tuple #[]) V fb pg fuel w (if k = fuel then .stop 8 else .val () (k + 1))) := by
  have c2 : w.cell? ⟨V, 2, none⟩ = some (.int .i64 (k : Int)) := by simp [World.cell?, show w.heap[V]? = _ from h]
  have c3 : w.cell? ⟨V, 3, none⟩ = some (.int .i64 (fuel : Int)) := by simp [World.cell?, show w.heap[V]? = _ from h]
  have cf := frozen_of_row w V 2 _ _ h
  have HE := hid h
  clear h
  by_cases e : k = fuel
  · rw [if_pos e]
    have q : ((k : Int) == (fuel : Int)) = true := by rw [e]; simp
    have HQ := hid e
    clear e
    go_enter Tryz.func91, Tryz.ntmps91
    go_wp2_with fail
    go_quiet (fail)
    go_wp2_with fail
    exact ⟨rfl, frN _ _ _, rfl⟩
  · rw [if_neg e]
    have q : ((k : Int) == (fuel : Int)) = false := by simp; omega
    have hw : IntKind.i64.wrap ((k : Int) + 1) = (k : Int) + 1 := by rw [IntKind.wrap_i64]; omega
    have HQ := hid e
    clear e
    go_enter Tryz.func91, Tryz.ntmps91
    go_wp2_with fail
    go_quiet (fail)
    go_wp2_with fail
    go_end0
    refine ⟨(frN _ _ _).set 2 _, rfl, ?_⟩
    have := EvAt.set (show EvAt (w.drewN nq) V fb pg k fuel from HE.out) (k + 1)
    simpa using this

end Go.Proofs.YtlgcmeachjjmgajGreatDoor

namespace Go.Proofs.YtlgcmeachjjmgajGreatDoor
open Go.RowKit

/-- names that stand for elements -/
def ScB (p : Nat) (sc : List (List UInt8 × Int)) : Prop := ∀ y, y ∈ sc → 0 ≤ y.2 ∧ y.2 < (p : Int)
theorem ER.bind_ne {α β : Type} {r : ER α} {f : α → Nat → ER β} (h : r.bind f ≠ .out) : r ≠ .out := fun e => h (by rw [e]; rfl)
theorem ER.bind_val {α β : Type} {r : ER α} {f : α → Nat → ER β} {y : β} {j : Nat} (h : r.bind f = .val y j) : ∃ x k, r = .val x k ∧ f x k = .val y j := by
  cases r with
  | val x k => exact ⟨x, k, rfl, h⟩
  | stop e => cases h
  | out => cases h
theorem rknS_bd {p kd k j : Nat} {a b x : Int} (h3 : 3 ≤ p) (h : rknS p kd a b k = .val x j) : (0 ≤ x ∧ x < (p : Int)) ∧ j = k := by
  have hm : ∀ z : Int, 0 ≤ z % (p : Int) ∧ z % (p : Int) < (p : Int) := fun z => ⟨Int.emod_nonneg _ (by omega), Int.emod_lt_of_pos _ (by omega)⟩
  unfold rknS at h
  repeat' split at h
  all_goals (first | (cases h; done) | (injection h with h1 h2; subst h1 h2; first | exact ⟨hm _, rfl⟩ | exact ⟨by omega, rfl⟩))
/-- what an expression comes to is an element, and more parts were looked at -/
theorem evl_bd (p : Nat) (fs : List FnT) (fuel : Nat) (h3 : 3 ≤ p) : ∀ (R : Nat) (t : Tr) (sc : List (List UInt8 × Int)) (k : Nat) (x : Int) (j : Nat), ScB p sc → k ≤ fuel → evl p fs fuel R t sc k = .val x j → (0 ≤ x ∧ x < (p : Int)) ∧ k < j ∧ j ≤ fuel
  | 0, _, _, _, _, _, _, _, h => by rw [evl] at h; cases h
  | R + 1, .node kd nm at' n kids, sc, k, x, j, hs, hk, h => by
    have ih := evl_bd p fs fuel h3 R
    have hm : ∀ z : Int, 0 ≤ z % (p : Int) ∧ z % (p : Int) < (p : Int) := fun z => ⟨Int.emod_nonneg _ (by omega), Int.emod_lt_of_pos _ (by omega)⟩
    have hA : ∀ (more : List (List UInt8 × Nat)) (ts : List Tr) (own : List (List UInt8 × Int)) (k : Nat) (ys : List (List UInt8 × Int)) (j : Nat), ScB p own → k ≤ fuel → evA (fun t k => evl p fs fuel R t sc k) more ts own k = .val ys j → ScB p ys ∧ k ≤ j ∧ j ≤ fuel := by
      intro more
      induction more with
      | nil => intro ts own k ys j ho hk h; rw [evA] at h; injection h with h1 h2; subst h1 h2; exact ⟨ho, Nat.le_refl _, hk⟩
      | cons m r ihm =>
        intro ts own k ys j ho hk h
        cases ts with
        | nil => rw [evA] at h; cases h
        | cons t ts =>
          rw [evA] at h
          obtain ⟨v, k2, e1, e2⟩ := ER.bind_val h
          obtain ⟨b1, b2, b3⟩ := ih t sc k v k2 hs hk e1
          obtain ⟨c1, c2, c3⟩ := ihm ts _ k2 ys j (fun y hy => by
            rcases List.mem_cons.1 hy with rfl | hy
            · exact b1
            · exact ho y hy) b3 e2
          exact ⟨c1, by omega, c3⟩
    unfold evl at h
    split at h
    · cases h
    · rename_i hkf
      have hk1 : k + 1 ≤ fuel := by omega
      split at h
      · injection h with h1 h2; subst h1 h2; exact ⟨hm _, by omega, hk1⟩
      · split at h
        · split at h
          · rename_i y hy
            injection h with h1 h2; subst h1 h2
            exact ⟨hs y (List.mem_of_find?_eq_some hy), by omega, hk1⟩
          · cases h
        · split at h
          · split at h
            · rename_i g _
              obtain ⟨own, k2, e1, e2⟩ := ER.bind_val h
              obtain ⟨a1, a2, a3⟩ := hA _ _ _ _ _ _ (by intro y hy; cases hy) hk1 e1
              obtain ⟨b1, b2, b3⟩ := ih _ own k2 x j a1 a3 e2
              exact ⟨b1, by omega, b3⟩
            · cases h
          · split at h
            · split at h
              · obtain ⟨y, k2, e1, e2⟩ := ER.bind_val h
                obtain ⟨b1, b2, b3⟩ := ih _ sc _ y k2 hs hk1 e1
                injection e2 with h1 h2; subst h1 h2
                exact ⟨hm _, by omega, b3⟩
              · cases h
            · split at h
              · obtain ⟨y, k2, e1, e2⟩ := ER.bind_val h
                obtain ⟨b1, b2, b3⟩ := ih _ sc _ y k2 hs hk1 e1
                obtain ⟨c1, c2, c3⟩ := ih _ _ k2 x j (fun z hz => by
                  rcases List.mem_cons.1 hz with rfl | hz
                  · exact b1
                  · exact hs z hz) b3 e2
                exact ⟨c1, by omega, c3⟩
              · obtain ⟨y, k2, e1, e2⟩ := ER.bind_val h
                obtain ⟨b1, b2, b3⟩ := ih _ sc _ y k2 hs hk1 e1
                obtain ⟨z, k3, e3, e4⟩ := ER.bind_val e2
                obtain ⟨c1, c2, c3⟩ := ih _ sc _ z k3 hs b3 e3
                obtain ⟨d1, d2⟩ := rknS_bd h3 e4
                exact ⟨d1, by omega, by omega⟩
            · split at h
              · obtain ⟨y, k2, e1, e2⟩ := ER.bind_val h
                obtain ⟨b1, b2, b3⟩ := ih _ sc _ y k2 hs hk1 e1
                obtain ⟨z, k3, e3, e4⟩ := ER.bind_val e2
                obtain ⟨c1, c2, c3⟩ := ih _ sc _ z k3 hs b3 e3
                split at e4
                · obtain ⟨d1, d2, d3⟩ := ih _ sc _ x j hs c3 e4
                  exact ⟨d1, by omega, d3⟩
                · cases e4
              · split at h
                · obtain ⟨y, k2, e1, e2⟩ := ER.bind_val h
                  obtain ⟨b1, b2, b3⟩ := ih _ sc _ y k2 hs hk1 e1
                  split at e2
                  · obtain ⟨d1, d2, d3⟩ := ih _ sc _ x j hs b3 e2
                    exact ⟨d1, by omega, d3⟩
                  · obtain ⟨d1, d2, d3⟩ := ih _ sc _ x j hs b3 e2
                    exact ⟨d1, by omega, d3⟩
                · cases h
            · cases h
theorem ScP.fr {V fb pg k fuel : Nat} {w w' : World} (hV : EvAt w V fb pg k fuel) (hf : Fr V w w') : ∀ {v : Value} {l : List (List UInt8 × Int)}, ScP w v l → ScP w' v l
  | _, [], h => h
  | _, x :: r, h => by
    obtain ⟨b, u, h1, h2, h3⟩ := h
    refine ⟨b, u, h1, (hf.2 b (Array.getElem?_eq_some_iff.1 h2).1 (fun e => ?_)).trans h2, ScP.fr hV hf h3⟩
    rw [e, show w.heap[V]? = _ from hV] at h2
    injection h2 with h2
    injection h2 with _ h2
    exact absurd h2 (by decide)
/-- value's contract, with so many steps within one another -/
def EvC (p V fb pg fuel : Nat) (fs : List FnT) (w0 : World) (R : Nat) : Prop := ∀ (t : Tr) (v : Value) (a : Option Addr) (sc : List (List UInt8 × Int)) (k : Nat) (w : World), Below w0.heap.size w0 w → EvAt w V fb pg k fuel → k ≤ fuel → PT 0 w0 t v → TW t → ScP w (.pointer a) sc → ScB p sc → evl p fs fuel R t sc k ≠ .out →
  Calls Tryz.prog 59 #[.pointer (some ⟨V, 0, none⟩), v, .pointer a] w (EvP (Value.int .i64) V fb pg fuel w (evl p fs fuel R t sc k))

set_option maxRecDepth 100000 in
set_option maxHeartbeats 1000000 in
theorem two_of (p V fb pg fuel : Nat) (fs : List FnT) (w0 : World) (R : Nat) (h3 : 3 ≤ p) (hV0 : w0.heap.size ≤ V) (IH : EvC p V fb pg fuel fs w0 R) (kd at' n : Nat) (nm : List UInt8) (x y : Tr) (more : List Tr) (b : Nat) (a : Option Addr) (sc : List (List UInt8 × Int)) (k : Nat) (w : World) (hb : Below w0.heap.size w0 w) (hE : EvAt w V fb pg k fuel) (hk : k ≤ fuel) (hP : PT 0 w0 (.node kd nm at' n (x :: y :: more)) (.pointer (some ⟨b, 0, none⟩))) (hx : TW x) (hy : TW y) (hml : more.length ≤ 10) (hS : ScP w (.pointer a) sc) (hSB : ScB p sc)
    (r : ER (Int × Int)) (hr : r = (evl p fs fuel R x sc k).bind fun u k2 => (evl p fs fuel R y sc k2).bind fun v k3 => .val (u, v) k3) (hro : r ≠ .out) :
    Calls Tryz.prog 95 #[.pointer (some ⟨V, 0, none⟩), .pointer (some ⟨b, 0, none⟩), .pointer a] w (EvP (fun z : Int × Int => .tuple #[.int .i64 z.1, .int .i64 z.2]) V fb pg fuel w r) := by
  obtain ⟨b', av, c, e0, _, hbk, hks⟩ := hP
  injection e0 with e0
  injection e0 with e0
  injection e0 with e0
  subst e0
  obtain ⟨g, v0, rfl, _, d0, hp0⟩ := PTBs.at hks (i := 0) (t := x) rfl
  obtain ⟨g', v1, eg, _, d1, hp1⟩ := PTBs.at hks (i := 1) (t := y) rfl
  injection eg with eg
  injection eg with eg
  subst eg
  obtain ⟨b0, rfl⟩ := PT.form hp0
  obtain ⟨b1, rfl⟩ := PT.form hp1
  have p4 : w0.cell? ⟨b, 4, none⟩ = some (.slice (some ⟨g, 0, none⟩) (x :: y :: more).length c) := by simp [World.cell?, hbk]
  rw [Nat.zero_add] at d0 d1
  obtain ⟨nk, hnk⟩ : ∃ nk, nk = (x :: y :: more).length := ⟨_, rfl⟩
  rw [← hnk] at p4
  have hn2 : 2 ≤ nk ∧ nk ≤ 12 := by rw [hnk]; simp; omega
  have hn0 : (0 : Int) < (nk : Int) := by omega
  have hn1 : (1 : Int) < (nk : Int) := by omega
  have l4 := World.block_lt_of_cell? _ _ p4
  have l0 := World.block_lt_of_cell? _ _ d0
  have c4 := (hb.cell (p := ⟨b, 4, none⟩) l4).trans p4
  have c0 := (hb.cell (p := ⟨g, 0, none⟩) l0).trans d0
  have HR := hid hr
  have HRO := hid hro
  have hne1 : evl p fs fuel R x sc k ≠ .out := ER.bind_ne (by rw [← hr]; exact hro)
  have HC1 := hid (IH x _ a sc k w hb hE hk hp0 hx hS hSB hne1)
  have HIH := hid (fun k2 w1 (hf : Fr V w w1) (hE1 : EvAt w1 V fb pg k2 fuel) (hk2 : k2 ≤ fuel) (hne : evl p fs fuel R y sc k2 ≠ .out) => IH y _ a sc k2 w1 (hb.trans (hf.1.mono hV0)) hE1 hk2 hp1 hy (hS.fr hE hf) hSB hne)
  have HBD := hid (fun u k2 (h : evl p fs fuel R x sc k = .val u k2) => (evl_bd p fs fuel h3 R x sc k u k2 hSB hk h).2.2)
  have HW : Hid (∀ w1, Fr V w w1 → w1.cell? ⟨b, 4, none⟩ = some (.slice (some ⟨g, 0, none⟩) nk c) ∧ w1.cell? ⟨g, 1, none⟩ = some (.pointer (some ⟨b1, 0, none⟩))) := fun w1 hf => by
    have hb1 := hb.trans (hf.1.mono hV0)
    exact ⟨(hb1.cell (p := ⟨b, 4, none⟩) l4).trans p4, (hb1.cell (p := ⟨g, 1, none⟩) (World.block_lt_of_cell? _ _ d1)).trans d1⟩
  clear hks hp0 hp1 hbk d0 d1 p4 l4 l0 hnk IH hr hro hne1 hb hS hSB hx hy hE
  go_enter Tryz.func95, Tryz.ntmps95
  go_wp2_with fail
  refine HC1.out.mono ?_
  intro e w1 he
  obtain ⟨hf1, he⟩ := he
  cases h1 : evl p fs fuel R x sc k with
  | out => rw [h1] at he; exact he.elim
  | stop er =>
    rw [h1] at he
    have he' : e = pncE er := he
    subst he'
    have hr1 := HR.out
    rw [h1] at hr1
    have hr2 : r = .stop er := hr1
    subst hr2
    exact ⟨rfl, hf1, rfl⟩
  | val u k2 =>
    rw [h1] at he
    obtain ⟨rfl, hE1⟩ := he
    have hr1 := HR.out
    rw [h1] at hr1
    have hr2 : r = (evl p fs fuel R y sc k2).bind fun v k3 => .val (u, v) k3 := hr1
    have HR2 := hid hr2
    have hne2 : evl p fs fuel R y sc k2 ≠ .out := ER.bind_ne (by rw [← hr2]; exact HRO.out)
    have HC2 := hid (HIH.out k2 w1 hf1 hE1 (HBD.out u k2 h1) hne2)
    obtain ⟨f4, f1⟩ := HW.out w1 hf1
    have HF1 := hid hf1
    clear hr1 hr2 hne2 h1 hE1 HC1 hf1 HR
    go_wp2_with fail
    refine HC2.out.mono ?_
    intro e w2 he
    obtain ⟨hf2, he⟩ := he
    have HF2 := hid (HF1.out.trans hf2)
    cases h2 : evl p fs fuel R y sc k2 with
    | out => rw [h2] at he; exact he.elim
    | stop er =>
      rw [h2] at he
      have he' : e = pncE er := he
      subst he'
      have hr3 := HR2.out
      rw [h2] at hr3
      have hr4 : r = .stop er := hr3
      subst hr4
      exact ⟨rfl, HF2.out, rfl⟩
    | val v k3 =>
      rw [h2] at he
      obtain ⟨rfl, hE2⟩ := he
      have hr3 := HR2.out
      rw [h2] at hr3
      have hr4 : r = .val (u, v) k3 := hr3
      subst hr4
      have HE2 := hid hE2
      clear hr3 h2 hE2 hf2 HR2
      go_wp2_with fail
      go_ret2
      exact ⟨HF2.out, rfl, HE2.out⟩

end Go.Proofs.YtlgcmeachjjmgajGreatDoor

namespace Go.Proofs.YtlgcmeachjjmgajGreatDoor
open Go.RowKit

theorem bind_pair {α : Type} (r : ER Int) (g : Nat → ER Int) (F : Int → Int → Nat → ER α) : (r.bind fun u k2 => (g k2).bind fun v k3 => F u v k3) = (r.bind fun u k2 => (g k2).bind fun v k3 => .val (u, v) k3).bind (fun z k => F z.1 z.2 k) := by
  cases r with
  | val u k =>
    show (g k).bind _ = ((g k).bind _).bind _
    cases g k <;> rfl
  | stop e => rfl
  | out => rfl

set_option maxRecDepth 100000 in
set_option maxHeartbeats 2000000 in
theorem reckon_of (p V fb pg fuel : Nat) (fs : List FnT) (w0 : World) (R : Nat) (h3 : 3 ≤ p) (h4 : p ≤ 2147483647) (hpr : Num.Prime p) (hV0 : w0.heap.size ≤ V) (hp : w0.cell? ⟨fb, 0, none⟩ = some (.int .i64 p)) (IH : EvC p V fb pg fuel fs w0 R) (kd at' n : Nat) (nm : List UInt8) (x y : Tr) (hkd : 4 ≤ kd ∧ kd ≤ 8) (b : Nat) (a : Option Addr) (sc : List (List UInt8 × Int)) (k : Nat) (w : World) (hb : Below w0.heap.size w0 w) (hE : EvAt w V fb pg k fuel) (hk : k ≤ fuel) (hP : PT 0 w0 (.node kd nm at' n [x, y]) (.pointer (some ⟨b, 0, none⟩))) (hx : TW x) (hy : TW y) (hS : ScP w (.pointer a) sc) (hSB : ScB p sc)
    (r : ER Int) (hr : r = (evl p fs fuel R x sc k).bind fun u k2 => (evl p fs fuel R y sc k2).bind fun v k3 => rknS p kd u v k3) (hro : r ≠ .out) :
    Calls Tryz.prog 97 #[.pointer (some ⟨V, 0, none⟩), .pointer (some ⟨b, 0, none⟩), .pointer a] w (EvP (Value.int .i64) V fb pg fuel w r) := by
  obtain ⟨q, hq⟩ : ∃ q, q = (evl p fs fuel R x sc k).bind fun u k2 => (evl p fs fuel R y sc k2).bind fun v k3 => ER.val (u, v) k3 := ⟨_, rfl⟩
  rw [bind_pair, ← hq] at hr
  have hqo : q ≠ .out := ER.bind_ne (by rw [← hr]; exact hro)
  have HT := hid (two_of p V fb pg fuel fs w0 R h3 hV0 IH kd at' n nm x y [] b a sc k w hb hE hk hP hx hy (by simp) hS hSB q hq hqo)
  have HQB : Hid (∀ z k3, q = .val z k3 → (0 ≤ z.1 ∧ z.1 < (p : Int)) ∧ (0 ≤ z.2 ∧ z.2 < (p : Int))) := fun z k3 h => by
    rw [hq] at h
    obtain ⟨u, k1, e1, e2⟩ := ER.bind_val h
    obtain ⟨v, k2, e3, e4⟩ := ER.bind_val e2
    have b1 := evl_bd p fs fuel h3 R x sc k u k1 hSB hk e1
    have b2 := evl_bd p fs fuel h3 R y sc k1 v k2 hSB b1.2.2 e3
    injection e4 with e4 _
    subst e4
    exact ⟨b1.1, b2.1⟩
  obtain ⟨b', av, c, e0, _, hbk, _⟩ := hP
  injection e0 with e0
  injection e0 with e0
  injection e0 with e0
  subst e0
  have p0 : w0.cell? ⟨b, 0, none⟩ = some (.int .i64 (kd : Int)) := by simp [World.cell?, hbk]
  have HKD : Hid (∀ w1, Fr V w w1 → w1.cell? ⟨b, 0, none⟩ = some (.int .i64 (kd : Int))) := fun w1 hf => ((hb.trans (hf.1.mono hV0)).cell (p := ⟨b, 0, none⟩) (World.block_lt_of_cell? _ _ p0)).trans p0
  have HFB : Hid (∀ w1, Fr V w w1 → w1.cell? ⟨fb, 0, none⟩ = some (.int .i64 p)) := fun w1 hf => ((hb.trans (hf.1.mono hV0)).cell (p := ⟨fb, 0, none⟩) (World.block_lt_of_cell? _ _ hp)).trans hp
  have HR := hid hr
  clear hq hr hro hqo hx hy hS hSB hb hE hbk p0 hp IH
  go_enter Tryz.func97, Tryz.ntmps97
  go_wp2_with fail
  refine HT.out.mono ?_
  intro e w1 he
  obtain ⟨hf1, he⟩ := he
  cases hqq : q with
  | out => rw [hqq] at he; exact he.elim
  | stop er =>
    rw [hqq] at he
    have he' : e = pncE er := he
    subst he'
    have hr1 := HR.out
    rw [hqq] at hr1
    have hr2 : r = .stop er := hr1
    subst hr2
    exact ⟨rfl, hf1, rfl⟩
  | val z k3 =>
    rw [hqq] at he
    obtain ⟨rfl, hE1⟩ := he
    obtain ⟨hu, hv⟩ := HQB.out z k3 hqq
    have hr1 := HR.out
    rw [hqq] at hr1
    have hr2 : r = rknS p kd z.1 z.2 k3 := hr1
    have HF1 := hid hf1
    have HE1 := hid hE1
    have g0 := HKD.out w1 hf1
    have g1 : w1.cell? ⟨V, 0, none⟩ = some (.pointer (some ⟨fb, 0, none⟩)) := by simp [World.cell?, show w1.heap[V]? = _ from hE1]
    obtain ⟨u, v⟩ := z
    dsimp only at hu hv hr2
    unfold rknS at hr2
    clear hr1 hqq hf1 hE1 HT HQB HR HKD
    obtain rfl | rfl | rfl | rfl | rfl : kd = 4 ∨ kd = 5 ∨ kd = 6 ∨ kd = 7 ∨ kd = 8 := by omega
    · have hr3 : r = .val ((u + v) % (p : Int)) k3 := hr2
      subst hr3
      clear hr2
      go_wp2_with fail
      refine (add_any p fb u v w1 h3 h4 (HFB.out w1 HF1.out) (by omega) (by omega) (by omega) (by omega)).mono ?_
      rintro e w2 ⟨rfl, rfl⟩
      go_wp2_with fail
      go_ret
      exact ⟨HF1.out, rfl, HE1.out⟩
    · have hr3 : r = .val ((u - v) % (p : Int)) k3 := hr2
      subst hr3
      clear hr2
      go_wp2_with fail
      refine (sub_any p fb u v w1 h3 h4 (HFB.out w1 HF1.out) (by omega) (by omega) (by omega) (by omega)).mono ?_
      rintro e w2 ⟨rfl, rfl⟩
      go_wp2_with fail
      go_ret
      exact ⟨HF1.out, rfl, HE1.out⟩
    · have hr3 : r = .val (u * v % (p : Int)) k3 := hr2
      subst hr3
      clear hr2
      go_wp2_with fail
      refine (mul_any p fb u v w1 h3 h4 (HFB.out w1 HF1.out) (by omega) (by omega) (by omega) (by omega)).mono ?_
      rintro e w2 ⟨rfl, rfl⟩
      go_wp2_with fail
      go_ret
      exact ⟨HF1.out, rfl, HE1.out⟩
    · have hr3 : r = if v = 0 then .stop 7 else .val (u * (invn p v : Int) % (p : Int)) k3 := hr2
      clear hr2
      by_cases h0 : v = 0
      · rw [if_pos h0] at hr3
        subst hr3
        have q0 : (v != 0) = false := by simp [h0]
        clear h0
        go_wp2_with fail
        refine (must_any false w1).mono ?_
        rintro e w2 ⟨rfl, rfl⟩
        exact ⟨rfl, HF1.out, rfl⟩
      · rw [if_neg h0] at hr3
        subst hr3
        have q0 : (v != 0) = true := by simp [h0]
        clear h0
        go_wp2_with fail
        refine (must_any true w1).mono ?_
        rintro e w2 ⟨rfl, rfl⟩
        rw [if_pos rfl]
        go_wp2_with fail
        refine (div_any p fb u v w2 hpr h3 h4 (HFB.out w2 HF1.out) (by omega) (by omega) (by omega) (by omega)).mono ?_
        rintro e w3 ⟨rfl, rfl⟩
        go_wp2_with fail
        go_ret
        exact ⟨HF1.out, rfl, HE1.out⟩
    · have hr3 : r = .val (if u = v then 1 else 0) k3 := hr2
      clear hr2
      by_cases h0 : u = v
      · rw [if_pos h0] at hr3
        subst hr3
        have q0 : (u == v) = true := by simp [h0]
        clear h0
        go_wp2_with fail
        go_ret
        exact ⟨HF1.out, rfl, HE1.out⟩
      · rw [if_neg h0] at hr3
        subst hr3
        have q0 : (u == v) = false := by simp [h0]
        clear h0
        go_wp2_with fail
        go_ret
        exact ⟨HF1.out, rfl, HE1.out⟩

end Go.Proofs.YtlgcmeachjjmgajGreatDoor
