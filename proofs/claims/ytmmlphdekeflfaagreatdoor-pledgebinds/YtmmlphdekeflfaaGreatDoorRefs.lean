/- attestref3, the digests: common, Power, Constant, Mix, Permute, Pad, Hash; attestref1.All as a list of its own. attestref3, the digests: Permute, Pad, Hash; attestref1.Same; attestlaw3.differ. attestref3, the digests: Hash; attestref1.Same; attestlaw3.differ. attestref1.Same; attestlaw3.differ. Plain facts on digests: unlike lists have unlike Pads; stirring is undone in one way alone. attestref3, the trees: Leaf, Node, Left, Root. attestref3, the trees: Some, Once. -/
import Derived.Test.YtmmlphdekeflfaaGreatDoorPlain
import Derived.Test.YtmmlphdekeflfaaGreatDoorPls
import Derived.Test.YtmmlphdekeflfaaGreatDoorDoms
import Derived.Deep.QuietTactic
import Derived.StillTailTactics
import Derived.Laws.AppendOwnNone
namespace Go.Proofs.YtmmlphdekeflfaaGreatDoor
open Go.RowKit


/-! ## common, Power -/
/-! ## Constant -/
def cst (q : Nat) (r i : Int) : Int := if r < 0 ∨ 7 < r ∨ i < 0 ∨ 7 < i then 0 else ((8 * r + i + 1) ^ 5 + 3) % (q : Int)
theorem cst_bounds (q : Nat) (r i : Int) (h3 : 3 ≤ q) : 0 ≤ cst q r i ∧ cst q r i < q := by
  unfold cst
  split
  · omega
  · exact emod_bounds _ q h3
theorem pwm_int (q : Nat) (a : Int) (n : Nat) (h3 : 3 ≤ q) : ((Num.pwm q (el q a) n : Nat) : Int) = a ^ n % (q : Int) := by
  rw [Num.pwm_cast, el_cast q a h3, Pol.emod_eq_iff (by omega)]
  exact Dom.pow_congr (Pol.emod_dvd q a) n

/-! ## Mix -/
def mxs (q : Nat) (f : Nat → Int) (i k : Nat) : Int := Dom.sm (fun j => f j * (invn q ((i + j + 8 : Nat) : Int) : Int) % (q : Int)) k % (q : Int)
def mx (q : Nat) (f : Nat → Int) (i : Nat) : Int := mxs q f i 8
theorem mxs_succ (q : Nat) (f : Nat → Int) (i k : Nat) : (mxs q f i k + f k * (invn q ((i + k + 8 : Nat) : Int) : Int) % (q : Int)) % (q : Int) = mxs q f i (k + 1) := by
  unfold mxs
  simp only [Dom.sm]
  rw [Int.add_emod, Int.emod_emod_of_dvd _ (Int.dvd_refl _), ← Int.add_emod]

end Go.Proofs.YtmmlphdekeflfaaGreatDoor

namespace Go.Proofs.YtmmlphdekeflfaaGreatDoor
open Go.RowKit

/-! ## Permute -/
/-- a state after k rounds -/
def stir (q n : Nat) (f : Nat → Int) : Nat → Nat → Int
  | 0, j => f j % (q : Int)
  | k + 1, j => mx q (fun i => (stir q n f k i + cst q k i) ^ n % (q : Int)) j
theorem mx_bounds (q : Nat) (f : Nat → Int) (j : Nat) (h3 : 3 ≤ q) : 0 ≤ mx q f j ∧ mx q f j < q := emod_bounds _ q h3
theorem stir_bounds (q n : Nat) (f : Nat → Int) (k j : Nat) (h3 : 3 ≤ q) : 0 ≤ stir q n f k j ∧ stir q n f k j < q := by
  cases k with
  | zero => exact emod_bounds _ q h3
  | succ k => exact mx_bounds _ _ _ h3

/-! ## Pad -/
def pdf (q : Nat) (f : Nat → Int) (n j : Nat) : Int := if j < n then f j % (q : Int) else if j = n then 1 else 0
/-- how long a list is with what stands behind it -/
def pln (n : Nat) : Nat := 4 * (n / 4 + 1)

/-- how long a slice is -/
def lenV : Value → Nat
  | .slice _ n _ => n
  | _ => 0
end Go.Proofs.YtmmlphdekeflfaaGreatDoor

namespace Go.Proofs.YtmmlphdekeflfaaGreatDoor
open Go.RowKit

/-- four of a list are added to a state's first four places -/
def soak (q : Nat) (s P : Nat → Int) (t : Nat) (j : Nat) : Int := if j < 4 then (s j + P (4 * t + j)) % (q : Int) else s j
/-- the state behind t fours of a list -/
def hst (q n : Nat) (P : Nat → Int) : Nat → Nat → Int
  | 0, _ => 0
  | t + 1, j => stir q n (soak q (hst q n P t) P t) 8 j
theorem hst_bounds (q n : Nat) (P : Nat → Int) (t j : Nat) (h3 : 3 ≤ q) : 0 ≤ hst q n P t j ∧ hst q n P t j < q := by
  cases t with
  | zero => exact ⟨Int.le_refl _, by show (0 : Int) < q; omega⟩
  | succ t => exact stir_bounds _ _ _ _ _ h3
theorem pdf_bounds (q : Nat) (f : Nat → Int) (n j : Nat) (h3 : 3 ≤ q) : 0 ≤ pdf q f n j ∧ pdf q f n j < q := by
  unfold pdf
  split
  · exact emod_bounds _ q h3
  · split <;> omega

end Go.Proofs.YtmmlphdekeflfaaGreatDoor

namespace Go.Proofs.YtmmlphdekeflfaaGreatDoor
open Go.RowKit

/-- are two lists the same, as elements? -/
def samb (q : Nat) (xs ys : List Int) : Bool := decide (xs.map (· % (q : Int)) = ys.map (· % (q : Int)))

theorem samb_true {q : Nat} {xs ys : List Int} (hl : xs.length = ys.length) (h : ∀ j, j < xs.length → zat xs j % (q : Int) = zat ys j % (q : Int)) : samb q xs ys = true := by
  unfold samb
  rw [decide_eq_true_eq]
  refine List.ext_getElem (by simpa using hl) (fun j h1 h2 => ?_)
  rw [List.length_map] at h1 h2
  have := h j h1
  simpa [zat, h1, h2] using this
theorem samb_false {q : Nat} {xs ys : List Int} (h : xs.length ≠ ys.length ∨ ∃ j, j < xs.length ∧ zat xs j % (q : Int) ≠ zat ys j % (q : Int)) : samb q xs ys = false := by
  unfold samb
  rw [decide_eq_false_iff_not]
  intro e
  have hl : xs.length = ys.length := by simpa using congrArg List.length e
  rcases h with h | ⟨j, h1, h2⟩
  · exact h hl
  · have := congrArg (fun l : List Int => l[j]?) e
    simp [h1, show j < ys.length from by omega] at this
    exact h2 (by simpa [zat, h1, show j < ys.length from by omega] using this)

set_option maxRecDepth 100000 in
set_option maxHeartbeats 1000000 in
theorem rsame_any (q c1 c2 : Nat) (a1 a2 : Option Addr) (xs ys : List Int) (w : World) (h3 : 3 ≤ q) (h4 : q ≤ 2147483647) (_hn1 : xs.length ≤ 281474976710656) (hn2 : ys.length ≤ 281474976710656) (hf1 : Fits xs) (hf2 : Fits ys) (hr1 : RowB w.heap.size w a1 xs) (hr2 : RowB w.heap.size w a2 ys) :
    Calls Tryz.prog 28 #[.int .i64 q, .slice a1 xs.length c1, .slice a2 ys.length c2] w fun e w' => e = .returned (.bool (samb q xs ys)) ∧ w' = w := by
  have HF1 := hid hf1
  have HF2 := hid hf2
  have HR1 := hid hr1
  have HR2 := hid hr2
  clear hf1 hf2 hr1 hr2
  by_cases hl : xs.length = ys.length
  · have hne : ((ys.length : Int) != (ys.length : Int)) = false := by simp
    have HL := hid hl
    rw [hl]
    clear hl
    go_enter Tryz.func28, Tryz.ntmps28
    go_wp2_with fail
    go_loop [7] (fun iv => ∃ k : Nat, k ≤ ys.length ∧ iv = .int .i64 k ∧ Hid (∀ j, j < k → zat xs j % (q : Int) = zat ys j % (q : Int))) (fun iv => ys.length - (intOf iv).toNat)
    case atStart => exact ⟨0, Nat.zero_le _, rfl, fun j hj => by omega⟩
    case round =>
      obtain ⟨k, hk, rfl, HI⟩ := hrel
      by_cases hlt : k < ys.length
      · have hlt2 : (k : Int) < (ys.length : Int) := by omega
        obtain ⟨b1, o1, rfl, hb1, hcl1⟩ := HR1.out k (by rw [HL.out]; exact hlt)
        obtain ⟨b2, o2, rfl, hb2, hcl2⟩ := HR2.out k hlt
        obtain ⟨x1, x2⟩ := HF1.out k (by rw [HL.out]; exact hlt)
        obtain ⟨y1, y2⟩ := HF2.out k hlt
        have HO1 := hid (rof_any q (zat xs k) w h3 h4 x1 x2)
        have HO2 := hid (rof_any q (zat ys k) w h3 h4 y1 y2)
        by_cases he : zat xs k % (q : Int) = zat ys k % (q : Int)
        · have HI2 : Hid (∀ j, j < k + 1 → zat xs j % (q : Int) = zat ys j % (q : Int)) := fun j hj => by
            by_cases e : j = k
            · rw [e]; exact he
            · exact HI.out j (by omega)
          have heb : (zat xs k % (q : Int) != zat ys k % (q : Int)) = false := by rw [he]; simp
          clear he
          generalize zat xs k % (q : Int) = xm at *
          generalize zat ys k % (q : Int) = ym at *
          generalize zat xs k = x at *
          generalize zat ys k = y at *
          go_wp2_with fail
          refine HO1.out.mono ?_
          rintro e w1 ⟨rfl, rfl⟩
          go_wp2_with fail
          refine HO2.out.mono ?_
          rintro e w1 ⟨rfl, rfl⟩
          go_wp2_with fail
          go_round
          case rel => exact ⟨k + 1, by omega, by go_num, HI2⟩
          case measure => simp [intOf]; omega
        · have HS : Hid (samb q xs ys = false) := samb_false (Or.inr ⟨k, by rw [HL.out]; exact hlt, he⟩)
          have heb : (zat xs k % (q : Int) != zat ys k % (q : Int)) = true := by rw [bne_iff_ne]; exact he
          clear he
          generalize zat xs k % (q : Int) = xm at *
          generalize zat ys k % (q : Int) = ym at *
          generalize zat xs k = x at *
          generalize zat ys k = y at *
          go_wp2_with fail
          refine HO1.out.mono ?_
          rintro e w1 ⟨rfl, rfl⟩
          go_wp2_with fail
          refine HO2.out.mono ?_
          rintro e w1 ⟨rfl, rfl⟩
          go_wp2_with fail
          go_ret
          exact ⟨by rw [HS.out]; rfl, rfl⟩
      · have hlt2 : ¬ (k : Int) < (ys.length : Int) := by omega
        have HS : Hid (samb q xs ys = true) := samb_true HL.out (fun j hj => HI.out j (by rw [HL.out] at hj; omega))
        go_wp2_with fail
        go_ret
        exact ⟨by rw [HS.out]; rfl, rfl⟩
  · have HS : Hid (samb q xs ys = false) := samb_false (Or.inl hl)
    have hne : ((xs.length : Int) != (ys.length : Int)) = true := by rw [bne_iff_ne]; omega
    clear hl
    go_enter Tryz.func28, Tryz.ntmps28
    go_wp2_with fail
    go_ret
    exact ⟨by rw [HS.out]; rfl, rfl⟩

end Go.Proofs.YtmmlphdekeflfaaGreatDoor

namespace Go.Proofs.YtmmlphdekeflfaaGreatDoor
open Go.RowKit

/-! ## powers that are undone -/
theorem bezout : ∀ (b a : Nat), ∃ x y : Int, (a : Int) * x + (b : Int) * y = (Nat.gcd a b : Nat) := by
  intro b
  induction b using Nat.strongRecOn with
  | _ b ih =>
    intro a
    by_cases h : b = 0
    · subst h; exact ⟨1, 0, by simp⟩
    · obtain ⟨x, y, hxy⟩ := ih (a % b) (Nat.mod_lt _ (by omega)) b
      refine ⟨y, x - (a / b : Nat) * y, ?_⟩
      have h1 : Nat.gcd b (a % b) = Nat.gcd a b := by rw [Nat.gcd_comm b (a % b), ← Nat.gcd_rec, Nat.gcd_comm]
      rw [← h1, ← hxy]
      have h2 : (a : Int) = (b : Int) * ((a / b : Nat) : Int) + ((a % b : Nat) : Int) := by
        have := Nat.div_add_mod a b
        exact_mod_cast this.symm
      generalize ((a / b : Nat) : Int) = d at *
      generalize ((a % b : Nat) : Int) = m at *
      rw [h2]
      grind

theorem inv_some {n m : Nat} (hm : 2 ≤ m) (h : Nat.gcd n m = 1) : ∃ d : Nat, n * d % m = 1 := by
  obtain ⟨x, y, hxy⟩ := bezout m n
  rw [h] at hxy
  have h0 : 0 ≤ x % (m : Int) := Int.emod_nonneg _ (by omega)
  refine ⟨(x % (m : Int)).toNat, ?_⟩
  have h1 : ((n * (x % (m : Int)).toNat % m : Nat) : Int) = 1 := by
    push_cast
    rw [Int.toNat_of_nonneg h0, Int.mul_emod, Int.emod_emod_of_dvd _ (Int.dvd_refl _), ← Int.mul_emod]
    have e : (n : Int) * x = 1 + (m : Int) * (-y) := by rw [Int.mul_neg]; push_cast at hxy; omega
    rw [e, Int.add_mul_emod_self_left]
    exact Int.emod_eq_of_lt (by omega) (by omega)
  exact_mod_cast h1

/-! ## stirring -/
/-- the state's elements alone count -/
theorem mx_congr {q : Nat} {f g : Nat → Int} (hq : 0 < q) (h : ∀ j, j < 8 → f j % (q : Int) = g j % (q : Int)) (i : Nat) : mx q f i = mx q g i := by
  unfold mx mxs
  rw [Pol.emod_eq_iff hq]
  refine Dom.sm_congr (fun j hj => ?_)
  rw [show f j * (invn q ((i + j + 8 : Nat) : Int) : Int) % (q : Int) = g j * (invn q ((i + j + 8 : Nat) : Int) : Int) % (q : Int) from by rw [Int.mul_emod, h j hj, ← Int.mul_emod], Int.sub_self]
  exact Int.dvd_zero _
theorem stir_congr {q n : Nat} {f g : Nat → Int} (hq : 0 < q) (h : ∀ j, j < 8 → f j % (q : Int) = g j % (q : Int)) : ∀ k j, j < 8 → stir q n f k j = stir q n g k j
  | 0, j, hj => h j hj
  | k + 1, j, _ => mx_congr hq (fun i hi => by rw [stir_congr hq h k i hi]) j

end Go.Proofs.YtmmlphdekeflfaaGreatDoor

namespace Go.Proofs.YtmmlphdekeflfaaGreatDoor
open Go.RowKit

/-- a list of one -/
theorem owns_one (w : World) (x : Int) : (w.alloc (.cells #[.int .i64 x] 3)).ownsRow w.heap.size 3 1 (.slice (some ⟨w.heap.size, 0, none⟩) 1 1) [x].length ([x].map (Value.int .i64)) :=
  ⟨by simp, .inr ⟨w.heap.size, 1, #[.int .i64 x], rfl, Nat.le_refl _, heap_alloc_new w _, Nat.le_refl _, by unfold maxLen; omega, rfl, by simp⟩⟩

/-- append(l, m...) where l is the call's own -/
theorem wpList_appendL {ops : Array Oper} {rest : List Oper} {o : Oper} {act : Act} {Q : Exit → Act → World → Prop} (W : World) (base n0 : Nat) (hgd : o.guard = none) (s x : Operand)
    (ho : o.op = .call { callee := .builtin .append, args := #[s, x], argTypes := #[23, 23] }) (v : Value) (hs : act.eval s = v) (zs ys : List Int)
    (hown : W.ownsRow base 3 1 v zs.length (zs.map (Value.int .i64))) (av : Option Addr) (cap : Nat) (hx : act.eval x = .slice av ys.length cap) (hlen : zs.length + ys.length ≤ 17592186044416) (hbase : base ≤ W.heap.size) (hl : Lst n0 W av cap ys)
    (h : ∀ v' w2, w2.ownsRow base 3 1 v' (zs ++ ys).length ((zs ++ ys).map (Value.int .i64)) → Below base W w2 → wpList Tryz.prog ops Q rest (act.put o.dst v') w2) :
    wpList Tryz.prog ops Q (o :: rest) act W := by
  obtain ⟨i0, hi, hz0, hz1, hz2⟩ := info_parts Tryz.infoInt
  cases av with
  | none =>
    have hc := hl.nil rfl
    have hr := hl.room
    obtain rfl : cap = 0 := hc
    obtain rfl : ys = [] := List.length_eq_zero_iff.1 (by omega)
    refine wpList_append_own_none hgd s x 23 ho base 3 i0 1 Tryz.underlying23 hi _ _ _ hs hown hx ?_
    exact h v W (by rw [List.append_nil]; exact hown) (Below.refl _ _)
  | some ad =>
    refine wpList_append_own _ hgd s x 23 ho base 3 i0 (.int .i64 0) 1 8 Tryz.underlying23 hi hz0 hz1 hz2 rfl (by decide) _ _ _ hs hown ad ys.length cap (ys.map (Value.int .i64)) hx (by simp) ?_ ?_ (by unfold maxLen; omega) (by omega) hbase ?_
    · intro j u hu
      have hj : j < ys.length := by
        rcases Nat.lt_or_ge j ys.length with g | g
        · exact g
        · simp [g] at hu
      obtain ⟨b, off, h1, h2, h5⟩ := hl.row j hj
      cases h1
      have hadd : (⟨b, off, none⟩ : Addr).add j = ⟨b, off + j, none⟩ := by unfold Addr.add; split <;> simp_all
      rw [hadd]
      refine h5.trans ?_
      simp [zat, hj] at hu ⊢
      exact hu
    · intro u hu; obtain ⟨y, _, rfl⟩ := List.mem_map.1 hu; rfl
    · intro v' w2 hown2 hgrow _
      refine h v' w2 ?_ ((Below.refl base W).grown hgrow hbase (fun k hk => (hown.lt k hk).1))
      rw [List.length_append, List.map_append]
      exact hown2

/-- the digest of a list -/
def digl (q n : Nat) (l : List Int) : List Int := ls (hst q n (pdf q (zat l) l.length) (l.length / 4 + 1)) 4
theorem digl_len (q n : Nat) (l : List Int) : (digl q n l).length = 4 := ls_len _ _
theorem digl_fits {q : Nat} (h3 : 3 ≤ q) (h4 : q ≤ 2147483647) (n : Nat) (l : List Int) : Fits (digl q n l) := fun j hj => by
  rw [digl_len] at hj
  unfold digl
  rw [ls_at _ _ _ hj]
  have := hst_bounds q n (pdf q (zat l) l.length) (l.length / 4 + 1) j h3
  omega

/-- a list in a block of numbers -/
def LstD (w : World) (g N : Nat) (l : List Int) : Prop := Lst w.heap.size w (some ⟨g, 0, none⟩) N l ∧ ∃ c f, w.heap[g]? = some (.cells c 3 f)
theorem fits_cons {x : Int} {zs : List Int} (hx : -9223372036854775808 ≤ x ∧ x ≤ 9223372036854775807) (h : Fits zs) : Fits (x :: zs) := fun j hj => by
  cases j with
  | zero => simpa [zat] using hx
  | succ j => simpa [zat] using h j (by simpa using hj)
theorem fits_append {xs ys : List Int} (h1 : Fits xs) (h2 : Fits ys) : Fits (xs ++ ys) := fun j hj => by
  by_cases g : j < xs.length
  · have := h1 j g; simpa [zat, List.getElem?_append, g] using this
  · have := h2 (j - xs.length) (by rw [List.length_append] at hj; omega); simpa [zat, List.getElem?_append, g] using this

/-! ## Left -/
def lftA : Nat → Nat → Nat → Nat
  | 0, m, _ => m
  | k + 1, m, n => if m * 2 < n then lftA k (m * 2) n else m
/-- how many of n rows are in the left group -/
def lft (n : Nat) : Nat := lftA n 1 n
theorem lftA_spec : ∀ (k m n : Nat), 1 ≤ m → n ≤ m + k → n ≤ 2 * lftA k m n ∧ m ≤ lftA k m n ∧ (lftA k m n = m ∨ lftA k m n < n)
  | 0, m, n, h1, h2 => ⟨by simp only [lftA]; omega, Nat.le_refl _, Or.inl rfl⟩
  | k + 1, m, n, h1, h2 => by
    simp only [lftA]
    by_cases h : m * 2 < n
    · rw [if_pos h]
      obtain ⟨a, b, c⟩ := lftA_spec k (m * 2) n (by omega) (by omega)
      exact ⟨a, by omega, Or.inr (by omega)⟩
    · rw [if_neg h]
      exact ⟨by omega, Nat.le_refl _, Or.inl rfl⟩
theorem lft_spec (n : Nat) : n ≤ 2 * lft n ∧ 1 ≤ lft n ∧ (2 ≤ n → lft n < n) := by
  obtain ⟨a, b, c⟩ := lftA_spec n 1 n (Nat.le_refl _) (by omega)
  exact ⟨a, b, fun h => by unfold lft; omega⟩

/-! ## rows of rows -/
def rat (rows : List (List Int)) (k : Nat) : List Int := rows.getD k []
/-- rows that can be read, below n0, with their room -/
structure LstR (n0 : Nat) (w : World) (a : Option Addr) (cap : Nat) (rows : List (List Int)) : Prop where
  row : ∀ k, k < rows.length → ∃ b o ak ck, a = some ⟨b, o, none⟩ ∧ b < n0 ∧ w.cell? ⟨b, o + k, none⟩ = some (.slice ak (rat rows k).length ck) ∧ Lst n0 w ak ck (rat rows k)
  room : rows.length ≤ cap
  nil : a = none → cap = 0

theorem LstR.below {n0 : Nat} {A B : World} {a : Option Addr} {cap : Nat} {rows : List (List Int)} (h : Below n0 A B) (r : LstR n0 A a cap rows) : LstR n0 B a cap rows :=
  ⟨fun k hk => by
    obtain ⟨b, o, ak, ck, h1, h2, h3, h4⟩ := r.row k hk
    exact ⟨b, o, ak, ck, h1, h2, (h.cell (p := ⟨b, o + k, none⟩) h2).trans h3, h4.below h⟩, r.room, r.nil⟩
theorem LstR.mono {n0 n1 : Nat} {A : World} {a : Option Addr} {cap : Nat} {rows : List (List Int)} (h : n0 ≤ n1) (r : LstR n0 A a cap rows) : LstR n1 A a cap rows :=
  ⟨fun k hk => by
    obtain ⟨b, o, ak, ck, h1, h2, h3, h4⟩ := r.row k hk
    exact ⟨b, o, ak, ck, h1, by omega, h3, h4.mono h⟩, r.room, r.nil⟩
theorem rat_take {rows : List (List Int)} {m k : Nat} (h : k < m) : rat (rows.take m) k = rat rows k := by
  unfold rat
  simp [h]
theorem rat_drop (rows : List (List Int)) (m k : Nat) : rat (rows.drop m) k = rat rows (m + k) := by
  unfold rat
  simp [List.getElem?_drop]
theorem LstR.take {n0 : Nat} {w : World} {a : Option Addr} {cap : Nat} {rows : List (List Int)} (r : LstR n0 w a cap rows) (m : Nat) : LstR n0 w a cap (rows.take m) :=
  ⟨fun k hk => by
    rw [List.length_take] at hk
    rw [rat_take (by omega)]
    exact r.row k (by omega), by have := r.room; rw [List.length_take]; omega, r.nil⟩
theorem LstR.drop {n0 : Nat} {w : World} {b o cap : Nat} {rows : List (List Int)} (r : LstR n0 w (some ⟨b, o, none⟩) cap rows) (m : Nat) : LstR n0 w (some ⟨b, o + m, none⟩) (cap - m) (rows.drop m) :=
  ⟨fun k hk => by
    rw [List.length_drop] at hk
    obtain ⟨b', o', ak, ck, h1, h2, h3, h4⟩ := r.row (m + k) (by omega)
    injection h1 with h1
    injection h1 with e1 e2 _
    subst e1; subst e2
    rw [rat_drop]
    exact ⟨b, o + m, ak, ck, rfl, h2, by rw [Nat.add_assoc]; exact h3, h4⟩, by have := r.room; rw [List.length_drop]; omega, fun e => by cases e⟩

/-- all rows fit, and none is too long -/
def FitsR (rows : List (List Int)) : Prop := ∀ k, k < rows.length → Fits (rat rows k) ∧ (rat rows k).length ≤ 17592186044000
theorem FitsR.take {rows : List (List Int)} (h : FitsR rows) (m : Nat) : FitsR (rows.take m) := fun k hk => by
  rw [List.length_take] at hk
  rw [rat_take (by omega)]
  exact h k (by omega)
theorem FitsR.drop {rows : List (List Int)} (h : FitsR rows) (m : Nat) : FitsR (rows.drop m) := fun k hk => by
  rw [List.length_drop] at hk
  rw [rat_drop]
  exact h (m + k) (by omega)

end Go.Proofs.YtmmlphdekeflfaaGreatDoor

namespace Go.Proofs.YtmmlphdekeflfaaGreatDoor
open Go.RowKit

/-- is one of the places from a to b - 1? -/
def smb (ps : List Int) (a b : Int) : Bool := ps.any (fun x => decide (a ≤ x ∧ x < b))
theorem smb_iff {ps : List Int} {a b : Int} : smb ps a b = true ↔ ∃ j, j < ps.length ∧ a ≤ zat ps j ∧ zat ps j < b := by
  unfold smb
  rw [List.any_eq_true]
  constructor
  · rintro ⟨x, hx, h⟩
    obtain ⟨j, hj, rfl⟩ := List.getElem_of_mem hx
    exact ⟨j, hj, by simpa [zat, hj] using h⟩
  · rintro ⟨j, hj, h⟩
    exact ⟨ps[j], List.getElem_mem hj, by simpa [zat, hj] using h⟩
/-! ## places ascending, each once -/
def Asc (os : List Int) : Prop := os.Pairwise (· < ·)
def OnceIs (ps os : List Int) : Prop := Asc os ∧ ∀ x, x ∈ os ↔ x ∈ ps

theorem asc_unique : ∀ {us vs : List Int}, Asc us → Asc vs → (∀ x, x ∈ us ↔ x ∈ vs) → us = vs
  | [], [], _, _, _ => rfl
  | [], b :: vs, _, _, h => absurd ((h b).2 (List.mem_cons_self ..)) (by simp)
  | a :: us, [], _, _, h => absurd ((h a).1 (List.mem_cons_self ..)) (by simp)
  | a :: us, b :: vs, h1, h2, h => by
    have ha := List.pairwise_cons.1 h1
    have hb := List.pairwise_cons.1 h2
    have e : a = b := by
      rcases List.mem_cons.1 ((h a).1 (List.mem_cons_self ..)) with g | g
      · exact g
      · rcases List.mem_cons.1 ((h b).2 (List.mem_cons_self ..)) with k | k
        · exact k.symm
        · have := hb.1 a g; have := ha.1 b k; omega
    subst e
    rw [asc_unique ha.2 hb.2 (fun x => ?_)]
    constructor
    · intro hx
      rcases List.mem_cons.1 ((h x).1 (List.mem_cons_of_mem _ hx)) with g | g
      · have := ha.1 x hx; omega
      · exact g
    · intro hx
      rcases List.mem_cons.1 ((h x).2 (List.mem_cons_of_mem _ hx)) with g | g
      · have := hb.1 x hx; omega
      · exact g
theorem OnceIs.unique {ps us vs : List Int} (h : OnceIs ps us) (k : OnceIs ps vs) : us = vs := asc_unique h.1 k.1 (fun x => (h.2 x).trans (k.2 x).symm)

theorem zat_mem {zs : List Int} {j : Nat} (h : j < zs.length) : zat zs j ∈ zs := by
  rw [show zat zs j = zs[j] from by simp [zat, h]]; exact List.getElem_mem h
theorem mem_zat {zs : List Int} {x : Int} (h : x ∈ zs) : ∃ j, j < zs.length ∧ zat zs j = x := by
  obtain ⟨i, hi, rfl⟩ := List.getElem_of_mem h
  exact ⟨i, hi, by simp [zat, hi]⟩

/-- may be the next -/
def Cand (os : List Int) (x : Int) : Prop := ∀ y, y ∈ os → y < x
/-- the least that may be next, of the first k -/
def BestIs (ps os : List Int) (k : Nat) (v : Value) : Prop :=
  (v = .int .i64 (-1) ∧ ∀ j, j < k → ¬ Cand os (zat ps j)) ∨ (∃ m : Nat, v = .int .i64 m ∧ m < k ∧ Cand os (zat ps m) ∧ ∀ j, j < k → Cand os (zat ps j) → zat ps m ≤ zat ps j)
theorem BestIs.skip {ps os : List Int} {k : Nat} {v : Value} (h : BestIs ps os k v) (hn : ¬ Cand os (zat ps k)) : BestIs ps os (k + 1) v := by
  rcases h with ⟨h1, h2⟩ | ⟨m, h1, h2, h3, h4⟩
  · exact .inl ⟨h1, fun j hj => by
      by_cases e : j = k
      · subst e; exact hn
      · exact h2 j (by omega)⟩
  · exact .inr ⟨m, h1, by omega, h3, fun j hj hc => by
      by_cases e : j = k
      · subst e; exact absurd hc hn
      · exact h4 j (by omega) hc⟩
theorem BestIs.first {ps os : List Int} {k : Nat} (h : BestIs ps os k (.int .i64 (-1))) (hc : Cand os (zat ps k)) : BestIs ps os (k + 1) (.int .i64 k) := by
  rcases h with ⟨h1, h2⟩ | ⟨m, h1, _⟩
  · exact .inr ⟨k, rfl, by omega, hc, fun j hj hj2 => by
      by_cases e : j = k
      · subst e; exact Int.le_refl _
      · exact absurd hj2 (h2 j (by omega))⟩
  · injection h1 with _ h1; omega
theorem BestIs.more {ps os : List Int} {k m : Nat} (h : BestIs ps os k (.int .i64 m)) (hl : ¬ zat ps k < zat ps m) : BestIs ps os (k + 1) (.int .i64 m) := by
  rcases h with ⟨h1, _⟩ | ⟨m', h1, h2, h3, h4⟩
  · injection h1 with _ h1; omega
  · injection h1 with _ h1
    obtain rfl : m = m' := by omega
    exact .inr ⟨m, rfl, by omega, h3, fun j hj hj2 => by
      by_cases e : j = k
      · subst e; omega
      · exact h4 j (by omega) hj2⟩

end Go.Proofs.YtmmlphdekeflfaaGreatDoor
