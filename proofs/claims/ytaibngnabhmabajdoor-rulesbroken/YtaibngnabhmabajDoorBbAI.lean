/- attestref1.Unlike: whether all of a list are unlike, as elements. A cell appended to a list of the call's own, of any length. What the rules say of rows, plainly. Package rules: a view in memory; its small functions. The reference attestref8: what rules are asked of, in memory; add, sub, mul. -/
import Derived.Test.YtaibngnabhmabajDoorPls
import Derived.Deep.QuietTactic
import Derived.BigQuiet
import Derived.Test.YtaibngnabhmabajDoorBbAH
import Derived.Test.YtaibngnabhmabajDoorFld
import Derived.Test.YtaibngnabhmabajDoorBbAG
namespace Go.Proofs.YtaibngnabhmabajDoor
open Go.RowKit

end Go.Proofs.YtaibngnabhmabajDoor

namespace Go.Proofs.YtaibngnabhmabajDoor
open Go.RowKit

end Go.Proofs.YtaibngnabhmabajDoor

namespace Go.Proofs.YtaibngnabhmabajDoor
open Go.RowKit Go.Maps

theorem em_add1 (a b : Int) (p : Nat) : (a % (p : Int) + b) % (p : Int) = (a + b) % (p : Int) := by rw [Int.add_emod, Int.emod_emod_of_dvd _ (Int.dvd_refl _), ← Int.add_emod]
theorem em_add2 (a b : Int) (p : Nat) : (a + b % (p : Int)) % (p : Int) = (a + b) % (p : Int) := by rw [Int.add_emod, Int.emod_emod_of_dvd b (Int.dvd_refl _), ← Int.add_emod]
theorem em_sub1 (a b : Int) (p : Nat) : (a % (p : Int) - b) % (p : Int) = (a - b) % (p : Int) := by rw [Int.sub_emod, Int.emod_emod_of_dvd _ (Int.dvd_refl _), ← Int.sub_emod]
theorem em_sub2 (a b : Int) (p : Nat) : (a - b % (p : Int)) % (p : Int) = (a - b) % (p : Int) := by rw [Int.sub_emod, Int.emod_emod_of_dvd b (Int.dvd_refl _), ← Int.sub_emod]
theorem em_mul1 (a b : Int) (p : Nat) : (a % (p : Int) * b) % (p : Int) = (a * b) % (p : Int) := by rw [Int.mul_emod, Int.emod_emod_of_dvd _ (Int.dvd_refl _), ← Int.mul_emod]
theorem em_mul2 (a b : Int) (p : Nat) : (a * (b % (p : Int))) % (p : Int) = (a * b) % (p : Int) := by rw [Int.mul_emod, Int.emod_emod_of_dvd b (Int.dvd_refl _), ← Int.mul_emod]

/-- the terms of an instruction: what it works, what more, what is next, the registers, whether it halts -/
def tvW (p : Nat) (r : List Int) (o : InsZ) : Int :=
  if o.op = 1 then (zat r 7 + zat r 8 - zat r 9) % (p : Int)
  else if o.op = 2 then (zat r 7 - zat r 8 - zat r 9) % (p : Int)
  else if o.op = 3 then (zat r 7 * zat r 8 - zat r 9) % (p : Int)
  else if o.op = 4 then (zat r 9 * zat r 8 - zat r 7) % (p : Int)
  else if o.op = 5 then (zat r 7 - o.b) % (p : Int)
  else if o.op = 6 then ((zat r 7 - zat r 8) * zat r 11 - (1 - zat r 9)) % (p : Int)
  else if o.op = 7 ∨ o.op = 13 then (zat r 7 - zat r 8) % (p : Int)
  else if o.op = 9 then (zat r 7 * (1 - zat r 11 * zat r 7)) % (p : Int)
  else if o.op = 10 then (zat r 7 - zat r 0) % (p : Int)
  else if o.op = 12 then (zat r 7 - zat r 2) % (p : Int)
  else if o.op = 0 ∨ o.op = 8 ∨ o.op = 11 then 0 else 1
def tvM (p : Nat) (r : List Int) (k : Nat) (o : InsZ) : Int :=
  if o.op = 4 then (zat r 11 * zat r 8 - 1) % (p : Int)
  else if o.op = 6 then (zat r 9 * (zat r 7 - zat r 8)) % (p : Int)
  else if o.op = 10 then (zat r 8 - ((k : Int) + 1)) % (p : Int) else 0
def tvN (p : Nat) (r : List Int) (k : Nat) (o : InsZ) : Int :=
  if o.op = 0 then (k : Int)
  else if o.op = 8 ∨ o.op = 10 then o.a
  else if o.op = 9 then ((1 - zat r 11 * zat r 7) * o.b + zat r 11 * zat r 7 * ((k : Int) + 1)) % (p : Int)
  else if o.op = 11 then zat r 8 else (k : Int) + 1
def tvF (p : Nat) (r : List Int) (o : InsZ) : Int := if o.op = 10 then (zat r 1 + 2) % (p : Int) else if o.op = 11 then zat r 7 else zat r 0
def tvA (p : Nat) (r : List Int) (o : InsZ) : Int := if o.op = 10 then (zat r 1 + 2 + o.b) % (p : Int) else zat r 1
def tvR (r : List Int) (o : InsZ) : Int := if o.op = 11 then zat r 9 else zat r 2
def tvH (o : InsZ) : Int := if o.op = 0 then 1 else 0
def tvC (p : Nat) (r : List Int) (j : Nat) (o : InsZ) : Int := cel3 p o.op o.a o.b o.c (zat r 0) (zat r 1) j
/-- a sum of terms, each times its s -/
def smz (p : Nat) (s f : Nat → Int) : Nat → Int
  | 0 => 0
  | k + 1 => (smz p s f k + s k * f k) % (p : Int)
theorem smz_bd {p : Nat} (h3 : 3 ≤ p) (s f : Nat → Int) : ∀ k, 0 ≤ smz p s f k ∧ smz p s f k < (p : Int)
  | 0 => ⟨(by show (0 : Int) ≤ 0; decide), (by show (0 : Int) < p; omega)⟩
  | k + 1 => emod_bounds _ p h3
/-- which s, which term: by the rule's number -/
def sel (r : List Int) (k : Nat) : Int := zat r (20 + k)
def smt (p : Nat) (L : List InsZ) (s : List Int) (f : Nat → InsZ → Int) : Int := smz p (sel s) (fun k => f k (insat L k)) L.length
theorem smt_bd {p : Nat} (h3 : 3 ≤ p) (L : List InsZ) (s : List Int) (f : Nat → InsZ → Int) : 0 ≤ smt p L s f ∧ smt p L s f < (p : Int) := smz_bd h3 _ _ _
/-- what two pairs behind one another say -/
def ord1 (p : Nat) (a b : Int) : Int := ((b - a) * (b - a - 1)) % (p : Int)
def ord2 (p : Nat) (a v b u : Int) : Int := ((b - a - 1) * (u - v)) % (p : Int)
/-- what the rules behind those of the choices say -/
def rl26 (p : Nat) (L : List InsZ) (size out : Int) (r n : List Int) : List Int :=
  [(smt p L r (fun _ _ => 1) - 1) % (p : Int),
   (zat r 3 - smt p L r (fun _ => tvC p r 0)) % (p : Int),
   (zat r 4 - smt p L r (fun _ => tvC p r 1)) % (p : Int),
   (zat r 5 - smt p L r (fun _ => tvC p r 2)) % (p : Int),
   smt p L r (fun _ => tvW p r),
   smt p L r (tvM p r),
   ord1 p (zat r 12) (zat r 13), ord2 p (zat r 12) (zat r 16) (zat r 13) (zat r 17),
   ord1 p (zat r 13) (zat r 14), ord2 p (zat r 13) (zat r 17) (zat r 14) (zat r 18),
   ord1 p (zat r 14) (zat r 15), ord2 p (zat r 14) (zat r 18) (zat r 15) (zat r 19),
   (smt p L n (fun k _ => (k : Int)) - smt p L r (tvN p r)) % (p : Int),
   (zat n 0 - smt p L r (fun _ => tvF p r)) % (p : Int),
   (zat n 1 - smt p L r (fun _ => tvA p r)) % (p : Int),
   (zat n 2 - smt p L r (fun _ => tvR r)) % (p : Int),
   ord1 p (zat r 15) (zat n 12), ord2 p (zat r 15) (zat r 19) (zat n 12) (zat n 16),
   (zat r 20 - 1) % (p : Int), (zat r 0 - 1) % (p : Int), (zat r 1 - 1 - size) % (p : Int), zat r 2 % (p : Int), zat r 12 % (p : Int), zat r 16 % (p : Int),
   (smt p L r (fun _ => tvH) - 1) % (p : Int), (zat r 7 - out) % (p : Int)]
/-- what the choice of an instruction says -/
def chz (p : Nat) (r : List Int) (k : Nat) : Int := (zat r (20 + k) * (zat r (20 + k) - 1)) % (p : Int)
/-- what all rules say of a row and the next -/
def rls (p : Nat) (L : List InsZ) (size out : Int) (r n : List Int) : List Int := ls (chz p r) L.length ++ rl26 p L size out r n
theorem rls_len (p : Nat) (L : List InsZ) (size out : Int) (r n : List Int) : (rls p L size out r n).length = L.length + 26 := by simp [rls, ls_len, rl26]
theorem rls_low (p : Nat) (L : List InsZ) (size out : Int) (r n : List Int) {i : Nat} (h : i < L.length) : zat (rls p L size out r n) i = chz p r i := by
  unfold rls zat
  rw [List.getElem?_append_left (by rw [ls_len]; exact h)]
  exact ls_at _ _ _ h
theorem rls_high (p : Nat) (L : List InsZ) (size out : Int) (r n : List Int) (j : Nat) : zat (rls p L size out r n) (L.length + j) = zat (rl26 p L size out r n) j := by
  unfold rls zat
  rw [List.getElem?_append_right (by rw [ls_len]; omega), ls_len, Nat.add_sub_cancel_left]
theorem rl26_bd {p : Nat} (h3 : 3 ≤ p) (L : List InsZ) (size out : Int) (r n : List Int) : ∀ x, x ∈ rl26 p L size out r n → 0 ≤ x ∧ x < (p : Int) := by
  have e := fun x => emod_bounds x p h3
  have s := fun s f => smt_bd h3 L s f
  intro x hx
  simp only [rl26, List.mem_cons, List.not_mem_nil, or_false] at hx
  rcases hx with rfl | rfl | rfl | rfl | rfl | rfl | rfl | rfl | rfl | rfl | rfl | rfl | rfl | rfl | rfl | rfl | rfl | rfl | rfl | rfl | rfl | rfl | rfl | rfl | rfl | rfl <;> first | exact e _ | exact s _ _
theorem rls_bd {p : Nat} (h3 : 3 ≤ p) (L : List InsZ) (size out : Int) (r n : List Int) : ∀ x, x ∈ rls p L size out r n → 0 ≤ x ∧ x < (p : Int) := by
  intro x hx
  unfold rls at hx
  rcases List.mem_append.1 hx with h | h
  · unfold ls at h
    obtain ⟨k, _, rfl⟩ := List.mem_map.1 h
    exact emod_bounds _ p h3
  · exact rl26_bd h3 L size out r n x h

end Go.Proofs.YtaibngnabhmabajDoor

namespace Go.Proofs.YtaibngnabhmabajDoor
open Go.RowKit Go.Maps

/-- what is known of a view's parts -/
structure VF (p : Nat) (L : List InsZ) (size out : Int) (r n : List Int) : Prop where
  h3 : 3 ≤ p
  h4 : p ≤ 2147483647
  hr : r.length = 20 + L.length
  hn : n.length = 20 + L.length
  fr : ∀ j, I64 (zat r j)
  fn : ∀ j, I64 (zat n j)
  hI : InsB L
  hl : L.length ≤ 4398046511104
  h1 : 1 ≤ L.length
  hsz : I64 size
  hout : I64 out
/-- a view in memory -/
structure VW (p b V : Nat) (L : List InsZ) (size out : Int) (r n : List Int) (aL : Option Addr) (cL : Nat) (ar : Option Addr) (cr : Nat) (an : Option Addr) (cn : Nat) (w : World) : Prop where
  blk : w.heap[V]? = some (.cells #[.pointer (some ⟨b, 0, none⟩), .int .i64 size, .slice aL L.length cL, .int .i64 out, .slice ar r.length cr, .slice an n.length cn] 65 (0, 0))
  fld : w.cell? ⟨b, 0, none⟩ = some (.int .i64 p)
  ins : LstI w.heap.size w aL cL L
  row : RowB w.heap.size w ar r
  nxt : RowB w.heap.size w an n
theorem VW.below {p b V : Nat} {L : List InsZ} {size out : Int} {r n : List Int} {aL : Option Addr} {cL : Nat} {ar : Option Addr} {cr : Nat} {an : Option Addr} {cn : Nat} {w w' : World} (h : VW p b V L size out r n aL cL ar cr an cn w) (e : Below w.heap.size w w') : VW p b V L size out r n aL cL ar cr an cn w' :=
  ⟨(e.block V (Array.getElem?_eq_some_iff.1 h.blk).1).trans h.blk, (e.cell (p := ⟨b, 0, none⟩) (World.block_lt_of_cell? _ _ h.fld)).trans h.fld, (h.ins.below e).mono e.size, RowB.mono e.size (RowB.below e h.row), RowB.mono e.size (RowB.below e h.nxt)⟩
theorem VW.cells {p b V : Nat} {L : List InsZ} {size out : Int} {r n : List Int} {aL : Option Addr} {cL : Nat} {ar : Option Addr} {cr : Nat} {an : Option Addr} {cn : Nat} {w : World} (h : VW p b V L size out r n aL cL ar cr an cn w) : w.cell? ⟨V, 0, none⟩ = some (.pointer (some ⟨b, 0, none⟩)) ∧ w.cell? ⟨V, 1, none⟩ = some (.int .i64 size) ∧ w.cell? ⟨V, 2, none⟩ = some (.slice aL L.length cL) ∧ w.cell? ⟨V, 3, none⟩ = some (.int .i64 out) ∧ w.cell? ⟨V, 4, none⟩ = some (.slice ar r.length cr) ∧ w.cell? ⟨V, 5, none⟩ = some (.slice an n.length cn) := by
  refine ⟨?_, ?_, ?_, ?_, ?_, ?_⟩ <;> simp [World.cell?, h.blk]
theorem rowB_at {n0 m : Nat} {w : World} {a : Option Addr} {zs : List Int} (h : RowB n0 w a zs) (hl : zs.length = 20 + m) : ∃ g o, a = some ⟨g, o, none⟩ ∧ ∀ i, i < 20 + m → w.cell? ⟨g, o + i, none⟩ = some (.int .i64 (zat zs i)) := by
  obtain ⟨g, o, h1, _, _⟩ := h 0 (by omega)
  refine ⟨g, o, h1, fun i hi => ?_⟩
  obtain ⟨g', o', h2, _, h4⟩ := h i (by omega)
  rw [h1] at h2
  injection h2 with h2
  injection h2 with h2 h3
  subst h2 h3
  exact h4
theorem VW.rowAt {p b V : Nat} {L : List InsZ} {size out : Int} {r n : List Int} {aL : Option Addr} {cL : Nat} {ar : Option Addr} {cr : Nat} {an : Option Addr} {cn : Nat} {w : World} (h : VW p b V L size out r n aL cL ar cr an cn w) (hl : r.length = 20 + L.length) : ∃ g o, ar = some ⟨g, o, none⟩ ∧ ∀ i, i < 20 + L.length → w.cell? ⟨g, o + i, none⟩ = some (.int .i64 (zat r i)) := rowB_at h.row hl
theorem VW.nxtAt {p b V : Nat} {L : List InsZ} {size out : Int} {r n : List Int} {aL : Option Addr} {cL : Nat} {ar : Option Addr} {cr : Nat} {an : Option Addr} {cn : Nat} {w : World} (h : VW p b V L size out r n aL cL ar cr an cn w) (hl : n.length = 20 + L.length) : ∃ g o, an = some ⟨g, o, none⟩ ∧ ∀ i, i < 20 + L.length → w.cell? ⟨g, o + i, none⟩ = some (.int .i64 (zat n i)) := rowB_at h.nxt hl

set_option maxRecDepth 100000 in
set_option maxHeartbeats 2000000 in
theorem vnotZero_any (p b V : Nat) (L : List InsZ) (size out : Int) (r n : List Int) (aL : Option Addr) (cL : Nat) (ar : Option Addr) (cr : Nat) (an : Option Addr) (cn : Nat) (w : World) (H : VF p L size out r n) (hV : VW p b V L size out r n aL cL ar cr an cn w)  :
    Calls Tryd.prog 71 #[.pointer (some ⟨V, 0, none⟩)] w fun e w' => e = .returned (.int .i64 ((zat r 11 * zat r 7) % (p : Int))) ∧ ∃ m, w' = w.drewN m := by
  have h3 := H.h3
  have h4 := H.h4
  have HEM : Hid (∀ a : Int, I64 (a % (p : Int))) := fun a => by have := emod_bounds a p H.h3; have := H.h4; unfold I64; omega
  obtain ⟨c0, c1, c2, c3, c4, c5⟩ := hV.cells
  have hpc := hV.fld
  have QP : Hid (∀ nn, (w.drewN nn).cell? ⟨b, 0, none⟩ = some (.int .i64 p)) := fun nn => hpc
  obtain ⟨br, orr, har, hrw⟩ := hV.rowAt H.hr
  subst har
  have r7 := hrw 7 (by omega)
  have i7 : I64 (zat r 7) := H.fr 7
  have l7 : (7 : Int) < (r.length : Int) := by have := H.hr; omega
  have r11 := hrw 11 (by omega)
  have i11 : I64 (zat r 11) := H.fr 11
  have l11 : (11 : Int) < (r.length : Int) := by have := H.hr; omega
  clear hrw
  have HC0 : Hid (∀ W : World, W.cell? ⟨b, 0, none⟩ = some (.int .i64 p) → Calls Tryd.prog 53 #[.pointer (some ⟨b, 0, none⟩), .int .i64 (zat r 11), .int .i64 (zat r 7)] W fun e w' => e = .returned (.int .i64 (((zat r 11) * (zat r 7)) % (p : Int))) ∧ w' = W) := fun W h => mul_any p b _ _ W h3 h4 h i11.1 i11.2 i7.1 i7.2
  clear i7 i11
  clear HEM H hV
  generalize (((zat r 11) * (zat r 7)) % (p : Int)) = t1 at *
  generalize zat r 7 = x7 at *
  generalize zat r 11 = x11 at *
  generalize r.length = lr at *
  generalize L.length = nL at *
  go_enter Tryd.func71, Tryd.ntmps71
  go_wp2_with fail
  go_quiet (first
    | (go_at_call 53; first | with_reducible exact Calls.quiet_of_same (HC0.out _ (QP.out _))))
  go_wp2_with fail
  go_ret
  exact ⟨rfl, _, rfl⟩

set_option maxRecDepth 100000 in
set_option maxHeartbeats 2000000 in
theorem vchoice_any (p b V : Nat) (L : List InsZ) (size out : Int) (r n : List Int) (aL : Option Addr) (cL : Nat) (ar : Option Addr) (cr : Nat) (an : Option Addr) (cn : Nat) (w : World) (H : VF p L size out r n) (hV : VW p b V L size out r n aL cL ar cr an cn w) (x : Int) (hx : I64 x)  :
    Calls Tryd.prog 40 #[.pointer (some ⟨V, 0, none⟩), .int .i64 x] w fun e w' => e = .returned (.int .i64 ((x * (x - 1)) % (p : Int))) ∧ ∃ m, w' = w.drewN m := by
  have h3 := H.h3
  have h4 := H.h4
  have HEM : Hid (∀ a : Int, I64 (a % (p : Int))) := fun a => by have := emod_bounds a p H.h3; have := H.h4; unfold I64; omega
  obtain ⟨c0, c1, c2, c3, c4, c5⟩ := hV.cells
  have hpc := hV.fld
  have QP : Hid (∀ nn, (w.drewN nn).cell? ⟨b, 0, none⟩ = some (.int .i64 p)) := fun nn => hpc
  have HE : Hid ((x * (x - 1)) % (p : Int) = ((x * ((x - (1 : Int)) % (p : Int))) % (p : Int))) := by
    unfold Hid
    simp only [em_mul2]
  obtain ⟨R, hR⟩ : ∃ R, R = (x * (x - 1)) % (p : Int) := ⟨_, rfl⟩
  rw [← hR] at HE ⊢
  clear hR
  have HC0 : Hid (∀ W : World, W.cell? ⟨b, 0, none⟩ = some (.int .i64 p) → Calls Tryd.prog 54 #[.pointer (some ⟨b, 0, none⟩), .int .i64 x, .int .i64 (1 : Int)] W fun e w' => e = .returned (.int .i64 ((x - (1 : Int)) % (p : Int))) ∧ w' = W) := fun W h => sub_any p b _ _ W h3 h4 h hx.1 hx.2 (show I64 1 by unfold I64; decide).1 (show I64 1 by unfold I64; decide).2
  have HC1 : Hid (∀ W : World, W.cell? ⟨b, 0, none⟩ = some (.int .i64 p) → Calls Tryd.prog 53 #[.pointer (some ⟨b, 0, none⟩), .int .i64 x, .int .i64 ((x - (1 : Int)) % (p : Int))] W fun e w' => e = .returned (.int .i64 ((x * ((x - (1 : Int)) % (p : Int))) % (p : Int))) ∧ w' = W) := fun W h => mul_any p b _ _ W h3 h4 h hx.1 hx.2 (HEM.out _).1 (HEM.out _).2
  clear HEM H hV
  generalize ((x * ((x - (1 : Int)) % (p : Int))) % (p : Int)) = t2 at *
  generalize ((x - (1 : Int)) % (p : Int)) = t1 at *
  generalize L.length = nL at *
  go_enter Tryd.func40, Tryd.ntmps40
  go_wp2_with fail
  go_quiet (first
    | (go_at_call 54; first | with_reducible exact Calls.quiet_of_same (HC0.out _ (QP.out _)))
    | (go_at_call 53; first | with_reducible exact Calls.quiet_of_same (HC1.out _ (QP.out _))))
  go_wp2_with fail
  go_ret
  exact ⟨by have h := HE.out; subst h; rfl, _, rfl⟩

end Go.Proofs.YtaibngnabhmabajDoor

namespace Go.Proofs.YtaibngnabhmabajDoor
open Go.RowKit Go.Maps

/-- what the rules are asked of, in memory -/
structure WW (p V : Nat) (L : List InsZ) (size out : Int) (r n : List Int) (aL : Option Addr) (cL : Nat) (ar : Option Addr) (cr : Nat) (an : Option Addr) (cn : Nat) (w : World) : Prop where
  blk : w.heap[V]? = some (.cells #[.int .i64 p, .int .i64 size, .slice aL L.length cL, .int .i64 out, .slice ar r.length cr, .slice an n.length cn] 49 (0, 0))
  ins : LstI w.heap.size w aL cL L
  row : RowB w.heap.size w ar r
  nxt : RowB w.heap.size w an n
theorem WW.below {p V : Nat} {L : List InsZ} {size out : Int} {r n : List Int} {aL : Option Addr} {cL : Nat} {ar : Option Addr} {cr : Nat} {an : Option Addr} {cn : Nat} {w w' : World} (h : WW p V L size out r n aL cL ar cr an cn w) (e : Below w.heap.size w w') : WW p V L size out r n aL cL ar cr an cn w' :=
  ⟨(e.block V (Array.getElem?_eq_some_iff.1 h.blk).1).trans h.blk, (h.ins.below e).mono e.size, RowB.mono e.size (RowB.below e h.row), RowB.mono e.size (RowB.below e h.nxt)⟩
theorem WW.cells {p V : Nat} {L : List InsZ} {size out : Int} {r n : List Int} {aL : Option Addr} {cL : Nat} {ar : Option Addr} {cr : Nat} {an : Option Addr} {cn : Nat} {w : World} (h : WW p V L size out r n aL cL ar cr an cn w) : w.cell? ⟨V, 0, none⟩ = some (.int .i64 p) ∧ w.cell? ⟨V, 1, none⟩ = some (.int .i64 size) ∧ w.cell? ⟨V, 2, none⟩ = some (.slice aL L.length cL) ∧ w.cell? ⟨V, 3, none⟩ = some (.int .i64 out) ∧ w.cell? ⟨V, 4, none⟩ = some (.slice ar r.length cr) ∧ w.cell? ⟨V, 5, none⟩ = some (.slice an n.length cn) := by
  refine ⟨?_, ?_, ?_, ?_, ?_, ?_⟩ <;> simp [World.cell?, h.blk]

set_option maxHeartbeats 1000000 in
theorem wadd_any (p V : Nat) (a b : Int) (w : World) (h3 : 3 ≤ p) (h4 : p ≤ 2147483647) (hp : w.cell? ⟨V, 0, none⟩ = some (.int .i64 p)) (ha : I64 a) (hb : I64 b) :
    Calls Tryd.prog 25 #[.pointer (some ⟨V, 0, none⟩), .int .i64 a, .int .i64 b] w fun e w' => e = .returned (.int .i64 ((a + b) % (p : Int))) ∧ w' = w := by
  have HC := hid (radd_any p a b w h3 h4 ha.1 ha.2 hb.1 hb.2)
  generalize (a + b) % (p : Int) = t at *
  clear ha hb h3 h4
  go_enter Tryd.func25, Tryd.ntmps25
  go_wp2_with fail
  refine HC.out.mono ?_
  rintro e w1 ⟨rfl, hw⟩
  have hw1 := hw.symm
  subst hw1
  go_wp2_with fail
  go_ret
  exact ⟨rfl, rfl⟩
set_option maxHeartbeats 1000000 in
theorem wsub_any (p V : Nat) (a b : Int) (w : World) (h3 : 3 ≤ p) (h4 : p ≤ 2147483647) (hp : w.cell? ⟨V, 0, none⟩ = some (.int .i64 p)) (ha : I64 a) (hb : I64 b) :
    Calls Tryd.prog 24 #[.pointer (some ⟨V, 0, none⟩), .int .i64 a, .int .i64 b] w fun e w' => e = .returned (.int .i64 ((a - b) % (p : Int))) ∧ w' = w := by
  have HC := hid (rsub_any p a b w h3 h4 ha.1 ha.2 hb.1 hb.2)
  generalize (a - b) % (p : Int) = t at *
  clear ha hb h3 h4
  go_enter Tryd.func24, Tryd.ntmps24
  go_wp2_with fail
  refine HC.out.mono ?_
  rintro e w1 ⟨rfl, hw⟩
  have hw1 := hw.symm
  subst hw1
  go_wp2_with fail
  go_ret
  exact ⟨rfl, rfl⟩
set_option maxHeartbeats 1000000 in
theorem wmul_any (p V : Nat) (a b : Int) (w : World) (h3 : 3 ≤ p) (h4 : p ≤ 2147483647) (hp : w.cell? ⟨V, 0, none⟩ = some (.int .i64 p)) (ha : I64 a) (hb : I64 b) :
    Calls Tryd.prog 23 #[.pointer (some ⟨V, 0, none⟩), .int .i64 a, .int .i64 b] w fun e w' => e = .returned (.int .i64 ((a * b) % (p : Int))) ∧ w' = w := by
  have HC := hid (rmul_any p a b w h3 h4 ha.1 ha.2 hb.1 hb.2)
  generalize (a * b) % (p : Int) = t at *
  clear ha hb h3 h4
  go_enter Tryd.func23, Tryd.ntmps23
  go_wp2_with fail
  refine HC.out.mono ?_
  rintro e w1 ⟨rfl, hw⟩
  have hw1 := hw.symm
  subst hw1
  go_wp2_with fail
  go_ret
  exact ⟨rfl, rfl⟩

end Go.Proofs.YtaibngnabhmabajDoor
