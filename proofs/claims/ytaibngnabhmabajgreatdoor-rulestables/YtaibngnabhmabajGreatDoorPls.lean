/- lives gives a field, and the law FieldFermat answers true for every input, its calls by their contracts. What package poly's Degree, Trim, Add, Sub and their helpers answer, for every list: new lists without zeros at their end; nothing that was there has turned. What package poly's Add and Sub answer, for every two lists. What package poly's addTimes and Mul answer. What package poly's Eval and Derive answer, and attestref1's Eval. What package attestref1 answers of polynomials: Degree, All, Trim, At, Plus, Scaled, Minus, Times, for every list. attestsame.Spoil writes to its own list alone; and lists that stay alive while a law goes on. append([]int{}, l...): a list copied, a nil one too. -/
import Derived.Test.YtaibngnabhmabajGreatDoorFld
import Derived.Test.YtaibngnabhmabajGreatDoorPlain
import Derived.Deep.OwnRows
import Derived.RegionTactic
import Derived.Deep.RegionWith
import Derived.BigRegion
import Derived.Deep.QuietTactic
import Derived.BigQuiet
import Derived.Laws.AppendOwnNone
namespace Go.Proofs.YtaibngnabhmabajGreatDoor
open Go.RowKit

theorem prime17 : Num.Prime 17 := by
  refine ⟨by decide, fun d hd => ?_⟩
  have hle : d ≤ 17 := Nat.le_of_dvd (by decide) hd
  have key : ∀ e, e ≤ 17 → 17 % e = 0 → e = 1 ∨ e = 17 := by decide
  exact key d hle (Nat.mod_eq_zero_of_dvd hd)

theorem two_of16 (q : Nat) (hq : Num.Prime q) (hd : q ∣ 16) : q = 2 := by
  have hle : q ≤ 16 := Nat.le_of_dvd (by decide) hd
  have key : ∀ e, e ≤ 16 → 16 % e = 0 → 2 ≤ e → e = 2 ∨ (4 ∣ e) := by decide
  rcases key q hle (Nat.mod_eq_zero_of_dvd hd) hq.1 with g | g
  · exact g
  · rcases hq.2 2 (Nat.dvd_trans (by decide) g) with h | h <;> omega

theorem prime2 : Num.Prime 2 := by
  refine ⟨by decide, fun d hd => ?_⟩
  have := Nat.le_of_dvd (by decide) hd
  have h0 : d ≠ 0 := by rintro rfl; have := Nat.eq_zero_of_zero_dvd hd; omega
  omega

theorem gen17 : Num.GenIs 17 3 := by
  refine Or.inl ⟨by decide, by decide, fun q hq hd => ?_, fun x h1 h2 h => ?_⟩
  · have := two_of16 q hq hd
    subst this
    decide
  · have h8 := h 2 prime2 (by decide)
    have hx : x = 1 ∨ x = 2 := by omega
    rcases hx with rfl | rfl <;> exact h8 (by decide)

/-- p factors make the element itself -/
theorem powz_p (p : Nat) (a : Int) (hp : Num.Prime p) (h3 : 3 ≤ p) : ((powz p a p : Nat) : Int) = a % (p : Int) := by
  obtain ⟨a1, a2⟩ := emod_bounds a p h3
  by_cases hz : a % (p : Int) = 0
  · unfold powz
    rw [if_pos ⟨hz, by omega⟩, hz]; rfl
  · rw [powz_nat p a p hp h3 hz]
    have hs0 : 0 < (a % (p : Int)).toNat := by omega
    have hsp : (a % (p : Int)).toNat < p := by omega
    have e : p % (p - 1) = 1 := by
      rw [show p = 1 + (p - 1) from by omega, Nat.add_sub_cancel_left, Nat.add_mod_right, Nat.mod_eq_of_lt (by omega)]
    rw [← Num.pwm_mod hp hs0 hsp p, e, Num.pwm_one p _ hsp]
    omega

end Go.Proofs.YtaibngnabhmabajGreatDoor

namespace Go.Proofs.YtaibngnabhmabajGreatDoor
open Go.RowKit

/-- n numbers that can be read, in a block of which P holds -/
def RowF (P : Nat → Prop) (w : World) (a : Option Addr) (n : Nat) (f : Nat → Int) : Prop :=
  ∀ k, k < n → ∃ b o, a = some ⟨b, o, none⟩ ∧ P b ∧ w.cell? ⟨b, o + k, none⟩ = some (.int .i64 (f k))
def FitsF (n : Nat) (f : Nat → Int) : Prop := ∀ j, j < n → -9223372036854775808 ≤ f j ∧ f j ≤ 9223372036854775807
theorem RowP.f {P : Nat → Prop} {w : World} {a : Option Addr} {zs : List Int} (h : RowP P w a zs) : RowF P w a zs.length (zat zs) := h
theorem RowB.f {n0 : Nat} {w : World} {a : Option Addr} {zs : List Int} (h : RowB n0 w a zs) : RowF (· < n0) w a zs.length (zat zs) := h
theorem Cells.f {g n : Nat} {f : Nat → Int} {w : World} (h : Cells g 0 n f w) : RowF (· = g) w (some ⟨g, 0, none⟩) n f := fun k hk => ⟨g, 0, rfl, rfl, h.cells k hk⟩

/-- how many are left without the zeros at the end -/
def tpn (p : Nat) (f : Nat → Int) (n : Nat) : Nat := Pol.tp p f n
theorem tpn_le (p : Nat) (f : Nat → Int) (n : Nat) : tpn p f n ≤ n := Pol.tp_le p f n

end Go.Proofs.YtaibngnabhmabajGreatDoor

namespace Go.Proofs.YtaibngnabhmabajGreatDoor
open Go.RowKit

theorem ret_slice {a : Option Addr} {n m c : Nat} (h : n = m) : Ending.returned (.slice a n c) = .returned (.slice a m c) := by rw [h]

/-- the longer length -/
def mxn (n m : Nat) : Nat := max n m

theorem add_list (p : Nat) (xs ys : List Int) : (Pol.padd p xs ys).length = tpn p (fun j => zat xs j + zat ys j) (mxn xs.length ys.length) ∧ ∀ j, j < (Pol.padd p xs ys).length → zat (Pol.padd p xs ys) j = (zat xs j + zat ys j) % (p : Int) :=
  ⟨Pol.mk_length _ _ _, fun j hj => by rw [Pol.padd, Pol.mk_length] at hj; exact Pol.mk_at p _ _ j hj⟩
theorem sub_list (p : Nat) (xs ys : List Int) : (Pol.psub p xs ys).length = tpn p (fun j => zat xs j - zat ys j) (mxn xs.length ys.length) ∧ ∀ j, j < (Pol.psub p xs ys).length → zat (Pol.psub p xs ys) j = (zat xs j - zat ys j) % (p : Int) :=
  ⟨Pol.mk_length _ _ _, fun j hj => by rw [Pol.psub, Pol.mk_length] at hj; exact Pol.mk_at p _ _ j hj⟩

end Go.Proofs.YtaibngnabhmabajGreatDoor

namespace Go.Proofs.YtaibngnabhmabajGreatDoor
open Go.RowKit

/-- so many times y added from place i on, the first k places of it -/
def addf (p : Nat) (f y : Nat → Int) (x : Int) (i k : Nat) : Nat → Int := fun j => if i ≤ j ∧ j < i + k then (f j + y (j - i) * x) % (p : Int) else f j

theorem addf_zero (p : Nat) (f y : Nat → Int) (x : Int) (i : Nat) : addf p f y x i 0 = f := by
  funext j; unfold addf; rw [if_neg (by omega)]
theorem addf_succ (p : Nat) (f y : Nat → Int) (x : Int) (i k : Nat) : up (addf p f y x i k) (i + k) ((f (i + k) + y k * x % (p : Int)) % (p : Int)) = addf p f y x i (k + 1) := by
  funext j; unfold up addf
  by_cases h : j = i + k
  · subst h; rw [if_pos rfl, if_pos (by omega), Nat.add_sub_cancel_left, Int.add_emod (f (i + k)), Int.emod_emod_of_dvd _ (Int.dvd_refl _), ← Int.add_emod]
  · rw [if_neg h]
    by_cases h2 : i ≤ j ∧ j < i + k
    · rw [if_pos h2, if_pos (by omega)]
    · rw [if_neg h2, if_neg (by omega)]
theorem addf_at (p : Nat) (f y : Nat → Int) (x : Int) (i k : Nat) : addf p f y x i k (i + k) = f (i + k) := by unfold addf; rw [if_neg (by omega)]

/-! ## Mul -/
/-- the product's places while the first i of a are taken -/
def pm (p : Nat) (f g : Nat → Int) (i : Nat) : Nat → Int := fun j => Pol.mul (Pol.lo i f) g j % (p : Int)

theorem pm_zero (p : Nat) (f g : Nat → Int) (j : Nat) : pm p f g 0 j = 0 := by
  unfold pm; rw [Pol.lo_zero, Pol.zero_mul]; simp [Pol.zero]
theorem pm_succ (p : Nat) (f : Nat → Int) (ys : List Int) (i : Nat) : addf p (pm p f (zat ys) i) (zat ys) (f i) i ys.length = pm p f (zat ys) (i + 1) := by
  funext j
  unfold addf pm
  rw [Pol.lo_mul_succ]
  simp only [Pol.add, Pol.sh, Pol.sc]
  by_cases h : j < i
  · rw [if_neg (by omega), if_pos h, Int.add_zero]
  · by_cases h2 : j < i + ys.length
    · rw [if_pos (by omega), if_neg h, Int.add_emod (Pol.mul (Pol.lo i f) (zat ys) j % (p : Int)), Int.emod_emod_of_dvd _ (Int.dvd_refl _), ← Int.add_emod, Int.mul_comm (f i)]
    · rw [if_neg (by omega), if_neg h]
      have : zat ys (j - i) = 0 := by simp [zat, show ys.length ≤ j - i from by omega]
      rw [this]; simp
theorem pm_bounds (p : Nat) (f g : Nat → Int) (i j : Nat) (h3 : 3 ≤ p) : 0 ≤ pm p f g i j ∧ pm p f g i j < p := emod_bounds _ p h3

theorem pm_done (p : Nat) (hp : Num.Prime p) (xs ys : List Int) (hx : Pol.Can p xs) (hy : Pol.Can p ys) (h1 : 0 < xs.length) (h2 : 0 < ys.length) :
    (Pol.pmul p xs ys).length = xs.length + ys.length - 1 ∧ ∀ j, j < xs.length + ys.length - 1 → zat (Pol.pmul p xs ys) j = pm p (zat xs) (zat ys) xs.length j := by
  have hl := Pol.pmul_len hp hx hy h1 h2
  refine ⟨hl, fun j hj => ?_⟩
  rw [← hl, Pol.pmul, Pol.mk_length] at hj
  have := Pol.mk_at p (Pol.mul (Pol.cf xs) (Pol.cf ys)) _ j hj
  rw [show zat (Pol.pmul p xs ys) j = (Pol.pmul p xs ys).getD j 0 from rfl, Pol.pmul, this]
  unfold pm
  rw [show Pol.lo xs.length (zat xs) = Pol.cf xs from Pol.lo_len xs]
  rfl

theorem trim_fits {p : Nat} (h3 : 3 ≤ p) (hm : p ≤ 2147483647) (zs : List Int) : Fits (Pol.trim p zs) := fun j hj => by
  have := (Pol.trim_can (p := p) (Nat.lt_of_lt_of_le (by decide) h3) zs).elem j hj
  have e : zat (Pol.trim p zs) j = (Pol.trim p zs).getD j 0 := rfl
  omega
theorem can_fits {p : Nat} (hm : p ≤ 2147483647) {zs : List Int} (h : Pol.Can p zs) : Fits zs := fun j hj => by
  have := h.elem j hj
  have e : zat zs j = zs.getD j 0 := rfl
  omega
theorem pmul_trim {p : Nat} (h3 : 3 ≤ p) (xs ys : List Int) : Pol.pmul p (Pol.trim p xs) (Pol.trim p ys) = Pol.pmul p xs ys :=
  Pol.mk_congr (by omega) (Pol.pmul_b p _ _) (Pol.pmul_b p _ _) ((Pol.trim_eqp p xs).mul (Pol.trim_eqp p ys))

end Go.Proofs.YtaibngnabhmabajGreatDoor

namespace Go.Proofs.YtaibngnabhmabajGreatDoor
open Go.RowKit

/-- what a polynomial is at an element -/
def evz (p : Nat) (zs : List Int) (x : Int) : Int := Pol.ps (zat zs) x zs.length % (p : Int)
theorem evz_bounds (p : Nat) (zs : List Int) (x : Int) (h3 : 3 ≤ p) : 0 ≤ evz p zs x ∧ evz p zs x < p := emod_bounds _ p h3

def hzm (p : Nat) (f : Nat → Int) (x : Int) (n k : Nat) : Int := Pol.hz f x n k % (p : Int)
theorem hzm_succ (p : Nat) (f : Nat → Int) (x : Int) (n k : Nat) : (hzm p f x n k * x % (p : Int) + f (n - 1 - k)) % (p : Int) = hzm p f x n (k + 1) := by
  unfold hzm
  rw [Pol.hz, Int.mul_emod, Int.emod_emod_of_dvd _ (Int.dvd_refl _), ← Int.mul_emod, Int.add_emod, Int.emod_emod_of_dvd _ (Int.dvd_refl _), ← Int.add_emod]

def psm (p : Nat) (f : Nat → Int) (x : Int) (k : Nat) : Int := Pol.ps f x k % (p : Int)
def pwz (p : Nat) (x : Int) (k : Nat) : Int := x ^ k % (p : Int)
theorem psm_succ (p : Nat) (f : Nat → Int) (x : Int) (k : Nat) : (psm p f x k + f k * pwz p x k % (p : Int)) % (p : Int) = psm p f x (k + 1) := by
  unfold psm pwz
  rw [Pol.ps, Int.mul_emod (f k), Int.emod_emod_of_dvd _ (Int.dvd_refl _), ← Int.mul_emod, Int.add_emod, Int.emod_emod_of_dvd _ (Int.dvd_refl _), Int.emod_emod_of_dvd _ (Int.dvd_refl _), ← Int.add_emod]
theorem pwz_succ (p : Nat) (x : Int) (k : Nat) : pwz p x k * x % (p : Int) = pwz p x (k + 1) := by
  unfold pwz
  rw [Int.pow_succ, Int.mul_emod, Int.emod_emod_of_dvd _ (Int.dvd_refl _), ← Int.mul_emod]

/-- the slope's list -/
def pdv (p : Nat) (zs : List Int) : List Int := Pol.mk p (Pol.dv (Pol.cf zs)) (zs.length - 1)

theorem pdv_list (p : Nat) (zs : List Int) : (pdv p zs).length = tpn p (fun j => zat zs (j + 1) * ((j : Int) + 1)) (zs.length - 1) ∧ ∀ j, j < (pdv p zs).length → zat (pdv p zs) j = zat zs (j + 1) * ((j : Int) + 1) % (p : Int) :=
  ⟨Pol.mk_length _ _ _, fun j hj => by rw [pdv, Pol.mk_length] at hj; exact Pol.mk_at p _ _ j hj⟩

end Go.Proofs.YtaibngnabhmabajGreatDoor

namespace Go.Proofs.YtaibngnabhmabajGreatDoor
open Go.RowKit

theorem heap_lt {w : World} {b : Nat} {v : Value} (hp : w.cell? ⟨b, 0, none⟩ = some v) : b < w.heap.size := by
  rcases Nat.lt_or_ge b w.heap.size with g | g
  · exact g
  · simp [World.cell?, Array.getElem?_eq_none g] at hp

theorem padd_ls {p : Nat} (h3 : 3 ≤ p) (xs ys : List Int) : Pol.trim p (ls (fun j => (zat xs j + zat ys j) % (p : Int)) (mxn xs.length ys.length)) = Pol.padd p xs ys := by
  refine Pol.mk_congr (by omega) (Pol.cf_behind p _) (Pol.padd_b p xs ys) (fun j => ?_)
  by_cases hj : j < mxn xs.length ys.length
  · rw [show Pol.cf (ls (fun j => (zat xs j + zat ys j) % (p : Int)) (mxn xs.length ys.length)) j = zat (ls (fun j => (zat xs j + zat ys j) % (p : Int)) (mxn xs.length ys.length)) j from rfl, ls_at _ _ _ hj]
    exact Pol.emod_dvd p _
  · have h : max xs.length ys.length ≤ j := by unfold mxn at hj; omega
    rw [Pol.cf_ge (by rw [ls_len]; omega)]
    simp only [Pol.add]
    rw [Pol.cf_ge (by omega), Pol.cf_ge (by omega)]
    simp

end Go.Proofs.YtaibngnabhmabajGreatDoor

namespace Go.Proofs.YtaibngnabhmabajGreatDoor
open Go.RowKit

theorem owns_of_rowIs {w : World} {g n : Nat} {f : Nat → Value} (h : w.rowIs g 3 n f) (hn : n ≤ maxLen) : ∃ xs : List Value, w.ownsRow g 3 1 (.slice (some ⟨g, 0, none⟩) n n) n xs := by
  obtain ⟨c, hb, hs, _⟩ := h
  exact ⟨c.toList, by simp [hs], .inr ⟨g, n, c, rfl, Nat.le_refl _, hb, Nat.le_refl _, hn, by omega, by rw [List.take_of_length_le (by simp [hs])]⟩⟩

/-- lists that can be read now -/
def Alive (w : World) (L : List (Option Addr × List Int)) : Prop := ∀ e, e ∈ L → RowB w.heap.size w e.1 e.2
theorem Alive.step {w w' : World} {L : List (Option Addr × List Int)} (h : Alive w L) (hb : Below w.heap.size w w') : Alive w' L := fun e he => (RowB.below hb (h e he)).mono hb.size
theorem Alive.nil (w : World) : Alive w [] := fun e he => by cases he
theorem Alive.cons {w : World} {L : List (Option Addr × List Int)} {a : Option Addr} {zs : List Int} (h : Alive w L) (r : RowB w.heap.size w a zs) : Alive w ((a, zs) :: L) := fun e he => by
  cases he with
  | head => exact r
  | tail _ he => exact h e he
theorem Alive.drewN {w : World} {L : List (Option Addr × List Int)} (h : Alive w L) (n : Nat) : Alive (w.drewN n) L := fun e he k hk => by
  obtain ⟨b, o, h1, h2, h3⟩ := h e he k hk
  exact ⟨b, o, h1, h2, h3⟩
theorem Alive.at {w : World} {L : List (Option Addr × List Int)} (h : Alive w L) (i : Nat) {a : Option Addr} {zs : List Int} (e : L[i]? = some (a, zs)) : RowB w.heap.size w a zs := h _ (List.mem_of_getElem? e)
theorem ints_same (n0 n1 : Nat) (zs : List Int) (a b : Option Addr) (ca cb : Nat) (w : World) (ha : RowB n0 w a zs) (hb : RowB n1 w b zs) (hx : zs.length ≤ 9223372036854775807) :
    Calls Tryz.prog 57 #[.slice a zs.length ca, .slice b zs.length cb] w fun e w' => e = .returned (.bool true) ∧ ∃ n, w' = w.drewN n :=
  (ints_any zs zs _ _ w (rowZ_of_B ca ha) (rowZ_of_B cb hb) hx hx).mono fun _ _ h => ⟨by rw [h.1, decide_eq_true rfl], h.2⟩

end Go.Proofs.YtaibngnabhmabajGreatDoor

namespace Go.Proofs.YtaibngnabhmabajGreatDoor
open Go.RowKit

theorem wpList_copy {ops : Array Oper} {rest : List Oper} {o : Oper} {act : Act} {Q : Exit → Act → World → Prop} (w1 : World) (hgd : o.guard = none) (s x : Operand)
    (ho : o.op = .call { callee := .builtin .append, args := #[s, x], argTypes := #[22, 22] })
    (hs : act.eval s = .slice (some ⟨w1.heap.size, 0, none⟩) 0 0) (av : Option Addr) (cap : Nat) (zs : List Int) (hx : act.eval x = .slice av zs.length cap)
    (hlen : zs.length ≤ 17592186044416) (hl : Lst w1.heap.size w1 av cap zs)
    (h : ∀ a2 c2 w2, Lst w2.heap.size w2 a2 c2 zs → Below w1.heap.size w1 w2 → w1.heap.size < w2.heap.size → wpList Tryz.prog ops Q rest (act.put o.dst (.slice a2 zs.length c2)) w2) :
    wpList Tryz.prog ops Q (o :: rest) act (w1.alloc (.cells #[] 3)) := by
  obtain ⟨i0, hi, hz0, hz1, hz2⟩ := info_parts Tryz.infoInt
  have hown : (w1.alloc (.cells #[] 3)).ownsRow w1.heap.size 3 1 (.slice (some ⟨w1.heap.size, 0, none⟩) 0 0) 0 [] := World.ownsRow_made (size := 1) w1 #[] 0 (Nat.le_refl _) (by unfold maxLen; omega) (by simp)
  have hb0 : Below w1.heap.size w1 (w1.alloc (.cells #[] 3)) := (Below.refl _ _).alloc (Nat.le_refl _) _
  cases av with
  | none =>
    have hc := hl.nil rfl
    have hr := hl.room
    obtain rfl : cap = 0 := hc
    obtain rfl : zs = [] := List.length_eq_zero_iff.1 (by omega)
    refine wpList_append_own_none hgd s x 22 ho w1.heap.size 3 i0 1 Tryz.underlying22 hi _ _ _ hs hown hx ?_
    exact h (some ⟨w1.heap.size, 0, none⟩) 0 _ ⟨fun k hk => by simp at hk, by simp, fun e => by cases e⟩ hb0 (by simp)
  | some ad =>
    refine wpList_append_own _ hgd s x 22 ho w1.heap.size 3 i0 (.int .i64 0) 1 8 Tryz.underlying22 hi hz0 hz1 hz2 rfl (by decide) _ _ _ hs hown ad zs.length cap (zs.map (Value.int .i64)) hx (by simp) ?_ ?_ (by unfold maxLen; omega) (by omega) (by simp) ?_
    · intro j u hu
      have hj : j < zs.length := by
        rcases Nat.lt_or_ge j zs.length with g | g
        · exact g
        · simp [g] at hu
      obtain ⟨b, off, h1, h2, h5⟩ := hl.row j hj
      cases h1
      have hadd : (⟨b, off, none⟩ : Addr).add j = ⟨b, off + j, none⟩ := by unfold Addr.add; split <;> simp_all
      rw [hadd, World.cell?_alloc_lt _ _ ⟨b, off + j, none⟩ h2]
      refine h5.trans ?_
      simp [zat, hj] at hu ⊢
      exact hu
    · intro u hu; obtain ⟨y, _, rfl⟩ := List.mem_map.1 hu; rfl
    · intro v' w2 hown2 hgrow _
      rw [Nat.zero_add, List.nil_append] at hown2
      have hb2 : Below w1.heap.size w1 w2 := hb0.grown hgrow (by simp) (fun k hk => (hown.lt k hk).1)
      obtain ⟨a2, c2, rfl, hl2⟩ := lst_of_owns hown2
      have hg := hgrow.size
      exact h a2 c2 w2 hl2 hb2 (by simp at hg; omega)

theorem wpList_copyG {ops : Array Oper} {rest : List Oper} {o : Oper} {act : Act} {Q : Exit → Act → World → Prop} (w1 : World) (g : Nat) (hgs : w1.heap.size = g) (hgd : o.guard = none) (s x : Operand)
    (ho : o.op = .call { callee := .builtin .append, args := #[s, x], argTypes := #[22, 22] })
    (hs : act.eval s = .slice (some ⟨g, 0, none⟩) 0 0) (av : Option Addr) (cap : Nat) (zs : List Int) (hx : act.eval x = .slice av zs.length cap)
    (hlen : zs.length ≤ 17592186044416) (hl : Lst w1.heap.size w1 av cap zs)
    (h : ∀ a2 c2 w2, Lst w2.heap.size w2 a2 c2 zs → Below w1.heap.size w1 w2 → w1.heap.size < w2.heap.size → wpList Tryz.prog ops Q rest (act.put o.dst (.slice a2 zs.length c2)) w2) :
    wpList Tryz.prog ops Q (o :: rest) act (w1.alloc (.cells #[] 3)) := by
  subst hgs
  exact wpList_copy w1 hgd s x ho hs av cap zs hx hlen hl h

end Go.Proofs.YtaibngnabhmabajGreatDoor
