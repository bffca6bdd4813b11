
import Derived.Test.YtjlngcmkgkiplaaGreatDoorWcAP
import Derived.Test.YtjlngcmkgkiplaaGreatDoorWcAE
import Derived.Test.YtjlngcmkgkiplaaGreatDoorWcAK
import Derived.Test.YtjlngcmkgkiplaaGreatDoorFld
import Derived.Test.YtjlngcmkgkiplaaGreatDoorPls
import Derived.Test.YtjlngcmkgkiplaaGreatDoorDoms
import Derived.Test.YtjlngcmkgkiplaaGreatDoorSpgs
set_option maxRecDepth 1000000
set_option maxHeartbeats 8000000
namespace Go.Proofs.YtjlngcmkgkiplaaGreatDoor
open Go.RowKit Go.Maps
theorem take_rat {R : List (List Int)} {i : Nat} (h : i < R.length) : R.take (i + 1) = R.take i ++ [rat R i] := by
 rw [List.take_succ_eq_append_getElem h]
 simp [rat, h]
theorem Tbl.more {base G Kn : Nat} {K : Nat -> Nat} {w : World} {R : List (List Int)} {r : List Int} {v0 : Value} (h : Tbl base G K w R) (hr : IRow Kn w r) (hb : base <= Kn) (hG : Kn ≠ G) (hK : ∀ k, k < R.length -> K k ≠ Kn) (hc : w.cell? ⟨G, R.length, none⟩ = some v0) :
  Tbl base G (fun k => if k = R.length then Kn else K k) (w.setCell ⟨G, R.length, none⟩ (.slice (some ⟨Kn, 0, none⟩) r.length r.length)) (R ++ [r]) := by
 have hoth : ∀ g, g ≠ G -> (w.setCell ⟨G, R.length, none⟩ (.slice (some ⟨Kn, 0, none⟩) r.length r.length)).heap[g]? = w.heap[g]? := fun g hg => Below.heap_setCell _ _ _ _ hg
 have hrat : ∀ k, k < R.length -> rat (R ++ [r]) k = rat R k := fun k hk => by simp [rat, List.getElem?_append_left hk, hk]
 have hlast : rat (R ++ [r]) R.length = r := by simp [rat]
 refine ⟨by simpa using h.lt, fun k hk => ?_, fun k hk => ?_, fun j k hj hk e => ?_, ⟨h.new.1, fun k hk => ?_⟩, fun j => by rw [World.frozen?_setCell]; exact h.soft j⟩
 ·rw [List.length_append, List.length_singleton] at hk
  by_cases e : k = R.length
  ·subst e
   rw [if_pos rfl, hlast]
   exact World.cell?_setCell_same _ _ _ hc
  ·rw [if_neg e, hrat k (by omega), World.cell?_setCell_other _ _ _ _ (by intro e1; injection e1 with _ h2 _; omega)]
   exact h.out k (by omega)
 ·rw [List.length_append, List.length_singleton] at hk
  by_cases e : k = R.length
  ·subst e
   rw [if_pos rfl, hlast]
   exact hr.block (hoth Kn hG)
  ·rw [if_neg e, hrat k (by omega)]
   exact (h.row k (by omega)).block (hoth _ (h.new.2 k (by omega)).2)
 ·rw [List.length_append, List.length_singleton] at hj hk
  by_cases e1 : j = R.length
  ·by_cases e2 : k = R.length
   ·omega
   ·rw [if_pos e1, if_neg e2] at e; exact absurd e.symm (hK k (by omega))
  ·by_cases e2 : k = R.length
   ·rw [if_neg e1, if_pos e2] at e; exact absurd e (hK j (by omega))
   ·rw [if_neg e1, if_neg e2] at e; exact h.inj j k (by omega) (by omega) e
 ·rw [List.length_append, List.length_singleton] at hk
  by_cases e : k = R.length
  ·rw [if_pos e]; exact ⟨hb, hG⟩
  ·rw [if_neg e]; exact h.new.2 k (by omega)
def onez (l : List Int) : List (List Int) := l.map fun x => [x]
theorem onez_len (l : List Int) : (onez l).length = l.length := by simp [onez]
theorem onez_rat {l : List Int} {i : Nat} (h : i < l.length) : rat (onez l) i = [zat l i] := by simp [onez, rat, zat, h]
structure MkI (base G n i : Nat) (R : List (List Int)) (w wr : World) : Prop where
 tbl : ∃ K, Tbl base G K wr (R.take i)
 out : ∀ j, j < n -> ∃ v, wr.cell? ⟨G, j, none⟩ = some v
 bel : Below base w wr
theorem MkI.more {base G n i Kn : Nat} {R : List (List Int)} {w wr W : World} {r : List Int} (h : MkI base G n i R w wr) (hb : Below wr.heap.size wr W) (hi : i < n) (hR : i < R.length) (hr : rat R i = r) (hrow : IRow Kn W r) (hK : wr.heap.size <= Kn) (hbase : base <= wr.heap.size) : MkI base G n (i + 1) R w (W.setCell ⟨G, i, none⟩ (.slice (some ⟨Kn, 0, none⟩) r.length r.length)) := by
 obtain ⟨⟨K, hT⟩, hout, hbel⟩ := h
 have hl : (R.take i).length = i := by rw [List.length_take]; omega
 have hG := hT.lt
 have hTW := hT.below hb (Nat.le_refl _)
 obtain ⟨v, hv⟩ := hout i hi
 have hvW := (hb.cell (p := ⟨G, i, none⟩) hG).trans hv
 have hm := hTW.more hrow (by omega) (by omega) (fun k hk e => by have := (hT.row k hk).lt; omega) (by rw [hl]; exact hvW)
 rw [hl] at hm
 refine ⟨⟨_, by rw [take_rat hR, hr]; exact hm⟩, fun j hj => ?_, ?_⟩
 ·obtain ⟨u, hu⟩ := hout j hj
  by_cases e : j = i
  ·subst e; exact ⟨_, World.cell?_setCell_same _ _ _ hvW⟩
  ·exact ⟨u, (World.cell?_setCell_other _ _ _ _ (by intro e1; injection e1 with _ h2 _; omega)).trans ((hb.cell (p := ⟨G, j, none⟩) hG).trans hu)⟩
 ·exact (hbel.trans (hb.mono hbase)).setCell (p := ⟨G, i, none⟩) hT.new.1 _
theorem mkI_start {base g n : Nat} {w0 w : World} {R : List (List Int)} {vs : List Value} (hown : w.ownsRow base 26 1 (.slice (some ⟨g, 0, none⟩) n n) n vs) (hb : base <= g) (hbel : Below base w0 w) : MkI base g n 0 R w0 w := by
 rcases hown.2 with ⟨e, _⟩ | ⟨g', cp', cur, e1, _, hgg, _, _, hs, _⟩
 ·cases e
 ·injection e1 with e1 _ e3
  injection e1 with e1
  injection e1 with e1
  rw [<- e1] at hgg
  refine ⟨⟨fun _ => 0, (Array.getElem?_eq_some_iff.1 hgg).1, fun k hk => by simp at hk, fun k hk => by simp at hk, fun j k hj => by simp at hj, ⟨by omega, fun k hk => by simp at hk⟩, fun j => by simp [World.frozen?, hgg]⟩, fun j hj => ?_, hbel⟩
  have hj2 : j < cur.size := by rw [hs]; omega
  exact ⟨cur[j], by simp [World.cell?, hgg, hj2]⟩
theorem oneEach_any (cap : Nat) (a : Option Addr) (l : List Int) (w : World) (hn : l.length <= 100000) (hl : RowB w.heap.size w a l) :
  Calls Tryz.prog 23 #[.slice a l.length cap] w fun e w' => ∃ G K, e = .returned (.slice (some ⟨G, 0, none⟩) l.length l.length) /\ Tbl w.heap.size G K w' (onez l) /\ Below w.heap.size w w' := by
 obtain ⟨i0, hi, hz0, hz1, hz2⟩ := info_parts (show (Tryz.prog.info? 26).map (fun i => (i.zero, i.size, i.bytes)) = some (some (.slice none 0 0), 1, 24) by kernel_rfl)
 have HL := hid hl
 obtain ⟨n, hn'⟩ : ∃ n, n = l.length := ⟨_, rfl⟩
 have HN := hid hn'
 rw [<- hn'] at hn ⊢
 clear hl hn'
 go_enter Tryz.func23, Tryz.ntmps23
 go_wp2_with (refine wpList_make_full _ rfl _ _ _ rfl w.heap.size 26 i0 _ 1 Tryz.underlying25 hi hz0 hz1 .i64 .i64 _ _ n rfl rfl rfl rfl (by rw [hz2]; omega) (by unfold maxLen; omega) (by simp) ?_)
 intro w1 hown hgr
 have hb1 : Below w.heap.size w w1 := ⟨hgr.os, hgr.tape, hgr.output, hgr.size, fun k hk => hgr.block k hk (by simp)⟩
 have HI0 : Hid (MkI w.heap.size w.heap.size n 0 (onez l) w w1) := mkI_start hown (Nat.le_refl _) hb1
 clear hown hgr hb1
 obtain ⟨G, hG⟩ := exE (w.heap.size)
 have HGE := hid hG
 have HI0' : Hid (MkI w.heap.size G n 0 (onez l) w w1) := by unfold Hid; rw [hG]; exact HI0.out
 clear HI0
 rw [<- hG]
 clear hG
 go_wp2_with fail
 go_loopw [4, 5, 11] (fun _ _ iv wr => ∃ i : Nat, i <= n /\ iv = .int .i64 i /\ Hid (MkI w.heap.size G n i (onez l) w wr)) (fun _ _ iv _ => n - (intOf iv).toNat)
 case atStart => exact ⟨0, Nat.zero_le _, rfl, HI0'⟩
 case round =>
  obtain ⟨i, hi', rfl, HI⟩ := hrel
  by_cases hlt : i < n
  ·have hlt2 : (i : Int) < (n : Int) := by omega
   have his : IntKind.i64.wrap ((i : Int) + 1) = (i : Int) + 1 := by rw [IntKind.wrap_i64]; omega
   obtain ⟨b, o, rfl, hb, hc⟩ := HL.out i (by rw [<- HN.out]; exact hlt)
   have hcx := (HI.out.bel.cell (p := ⟨b, o + i, none⟩) hb).trans hc
   have hx := onez_rat (l := l) (show i < l.length by rw [<- HN.out]; exact hlt)
   generalize zat l i = x at *
   have HX := hid hx
   obtain ⟨v, kv⟩ := HI.out.out i hlt
   obtain ⟨K, hT⟩ := HI.out.tbl
   have yv := hT.soft i
   have hGl := hT.lt
   have hsz := HI.out.bel.size
   obtain ⟨W2, hW2⟩ := exE (wr.alloc (.cells #[.int .i64 x] 3))
   have hb2 := blA hW2
   have hr2 := haA hW2
   have hIR : IRow wr.heap.size W2 [x] := ⟨(Array.getElem?_eq_some_iff.1 hr2).1, fun k hk => by
    have : k = 0 := by simpa using hk
    subst this
    simp [World.cell?, hr2, zat], fun j => by simp [World.frozen?, hr2]⟩
   have HI2 : Hid (MkI w.heap.size G n (i + 1) (onez l) w (W2.setCell ⟨G, i, none⟩ (.slice (some ⟨wr.heap.size, 0, none⟩) 1 1))) := HI.out.more hb2 hlt (by rw [onez_len, <- HN.out]; exact hlt) HX.out hIR (Nat.le_refl _) hsz
   clear hc hx hT hb2 hr2 hIR HI
   rw [hW2, World.setCell_alloc_past _ _ _ _ hGl] at HI2
   clear hW2
   go_wp2_with fail
   go_roundw
   case rel => exact ⟨i + 1, by omega, by go_num, HI2⟩
   case measure => simp [intOf]; omega
  ·obtain rfl : i = n := by omega
   have hlt2 : ¬ (i : Int) < (i : Int) := by omega
   obtain ⟨K, hT⟩ := HI.out.tbl
   rw [List.take_of_length_le (by rw [onez_len, <- HN.out]; exact Nat.le_refl _)] at hT
   have HE : Hid (Tbl w.heap.size G K wr (onez l) /\ Below w.heap.size w wr) := ⟨hT, HI.out.bel⟩
   clear hT HI
   go_wp2_with fail
   go_ret
   exact ⟨G, rfl, ⟨K, HE.out.1⟩, HE.out.2⟩
theorem em_add1 (a b : Int) (p : Nat) : (a % (p : Int) + b) % (p : Int) = (a + b) % (p : Int) := by rw [Int.add_emod, Int.emod_emod_of_dvd _ (Int.dvd_refl _), <- Int.add_emod]
theorem em_add2 (a b : Int) (p : Nat) : (a + b % (p : Int)) % (p : Int) = (a + b) % (p : Int) := by rw [Int.add_emod, Int.emod_emod_of_dvd b (Int.dvd_refl _), <- Int.add_emod]
theorem em_sub1 (a b : Int) (p : Nat) : (a % (p : Int) - b) % (p : Int) = (a - b) % (p : Int) := by rw [Int.sub_emod, Int.emod_emod_of_dvd _ (Int.dvd_refl _), <- Int.sub_emod]
theorem em_sub2 (a b : Int) (p : Nat) : (a - b % (p : Int)) % (p : Int) = (a - b) % (p : Int) := by rw [Int.sub_emod, Int.emod_emod_of_dvd b (Int.dvd_refl _), <- Int.sub_emod]
theorem em_mul1 (a b : Int) (p : Nat) : (a % (p : Int) * b) % (p : Int) = (a * b) % (p : Int) := by rw [Int.mul_emod, Int.emod_emod_of_dvd _ (Int.dvd_refl _), <- Int.mul_emod]
theorem em_mul2 (a b : Int) (p : Nat) : (a * (b % (p : Int))) % (p : Int) = (a * b) % (p : Int) := by rw [Int.mul_emod, Int.emod_emod_of_dvd b (Int.dvd_refl _), <- Int.mul_emod]
def tvW (p : Nat) (r : List Int) (o : InsZ) : Int :=
 if o.op = 1 then (zat r 7 + zat r 8 - zat r 9) % (p : Int)
 else if o.op = 2 then (zat r 7 - zat r 8 - zat r 9) % (p : Int)
 else if o.op = 3 then (zat r 7 * zat r 8 - zat r 9) % (p : Int)
 else if o.op = 4 then (zat r 9 * zat r 8 - zat r 7) % (p : Int)
 else if o.op = 5 then (zat r 7 - o.b) % (p : Int)
 else if o.op = 6 then ((zat r 7 - zat r 8) * zat r 11 - (1 - zat r 9)) % (p : Int)
 else if o.op = 7 ∨ o.op = 13 then (zat r 7 - zat r 8) % (p : Int)
 else if o.op = 9 then (zat r 7 * (1 - zat r 11 * zat r 7)) % (p : Int)
 else if o.op = 10 then (zat r 7 - zat r 0) % (p : Int)
 else if o.op = 12 then (zat r 7 - zat r 2) % (p : Int)
 else if o.op = 0 ∨ o.op = 8 ∨ o.op = 11 then 0 else 1
def tvM (p : Nat) (r : List Int) (k : Nat) (o : InsZ) : Int :=
 if o.op = 4 then (zat r 11 * zat r 8 - 1) % (p : Int)
 else if o.op = 6 then (zat r 9 * (zat r 7 - zat r 8)) % (p : Int)
 else if o.op = 10 then (zat r 8 - ((k : Int) + 1)) % (p : Int) else 0
def tvN (p : Nat) (r : List Int) (k : Nat) (o : InsZ) : Int :=
 if o.op = 0 then (k : Int)
 else if o.op = 8 ∨ o.op = 10 then o.a
 else if o.op = 9 then ((1 - zat r 11 * zat r 7) * o.b + zat r 11 * zat r 7 * ((k : Int) + 1)) % (p : Int)
 else if o.op = 11 then zat r 8 else (k : Int) + 1
def tvF (p : Nat) (r : List Int) (o : InsZ) : Int := if o.op = 10 then (zat r 1 + 2) % (p : Int) else if o.op = 11 then zat r 7 else zat r 0
def tvA (p : Nat) (r : List Int) (o : InsZ) : Int := if o.op = 10 then (zat r 1 + 2 + o.b) % (p : Int) else zat r 1
def tvR (r : List Int) (o : InsZ) : Int := if o.op = 11 then zat r 9 else zat r 2
def tvH (o : InsZ) : Int := if o.op = 0 then 1 else 0
def tvC (p : Nat) (r : List Int) (j : Nat) (o : InsZ) : Int := cel3 p o.op o.a o.b o.c (zat r 0) (zat r 1) j
def smz (p : Nat) (s f : Nat -> Int) : Nat -> Int
 | 0 => 0
 | k + 1 => (smz p s f k + s k * f k) % (p : Int)
theorem smz_bd {p : Nat} (h3 : 3 <= p) (s f : Nat -> Int) : ∀ k, 0 <= smz p s f k /\ smz p s f k < (p : Int)
 | 0 => ⟨(by show (0 : Int) <= 0; decide), (by show (0 : Int) < p; omega)⟩
 | k + 1 => emod_bounds _ p h3
def sel (r : List Int) (k : Nat) : Int := zat r (20 + k)
def smt (p : Nat) (L : List InsZ) (s : List Int) (f : Nat -> InsZ -> Int) : Int := smz p (sel s) (fun k => f k (insat L k)) L.length
theorem smt_bd {p : Nat} (h3 : 3 <= p) (L : List InsZ) (s : List Int) (f : Nat -> InsZ -> Int) : 0 <= smt p L s f /\ smt p L s f < (p : Int) := smz_bd h3 _ _ _
def ord1 (p : Nat) (a b : Int) : Int := ((b - a) * (b - a - 1)) % (p : Int)
def ord2 (p : Nat) (a v b u : Int) : Int := ((b - a - 1) * (u - v)) % (p : Int)
def rl26 (p : Nat) (L : List InsZ) (size out : Int) (r n : List Int) : List Int :=
 [(smt p L r (fun _ _ => 1) - 1) % (p : Int),
  (zat r 3 - smt p L r (fun _ => tvC p r 0)) % (p : Int),
  (zat r 4 - smt p L r (fun _ => tvC p r 1)) % (p : Int),
  (zat r 5 - smt p L r (fun _ => tvC p r 2)) % (p : Int),
  smt p L r (fun _ => tvW p r),
  smt p L r (tvM p r),
  ord1 p (zat r 12) (zat r 13), ord2 p (zat r 12) (zat r 16) (zat r 13) (zat r 17),
  ord1 p (zat r 13) (zat r 14), ord2 p (zat r 13) (zat r 17) (zat r 14) (zat r 18),
  ord1 p (zat r 14) (zat r 15), ord2 p (zat r 14) (zat r 18) (zat r 15) (zat r 19),
  (smt p L n (fun k _ => (k : Int)) - smt p L r (tvN p r)) % (p : Int),
  (zat n 0 - smt p L r (fun _ => tvF p r)) % (p : Int),
  (zat n 1 - smt p L r (fun _ => tvA p r)) % (p : Int),
  (zat n 2 - smt p L r (fun _ => tvR r)) % (p : Int),
  ord1 p (zat r 15) (zat n 12), ord2 p (zat r 15) (zat r 19) (zat n 12) (zat n 16),
  (zat r 20 - 1) % (p : Int), (zat r 0 - 1) % (p : Int), (zat r 1 - 1 - size) % (p : Int), zat r 2 % (p : Int), zat r 12 % (p : Int), zat r 16 % (p : Int),
  (smt p L r (fun _ => tvH) - 1) % (p : Int), (zat r 7 - out) % (p : Int)]
def chz (p : Nat) (r : List Int) (k : Nat) : Int := (zat r (20 + k) * (zat r (20 + k) - 1)) % (p : Int)
def rls (p : Nat) (L : List InsZ) (size out : Int) (r n : List Int) : List Int := ls (chz p r) L.length ++ rl26 p L size out r n
theorem rls_len (p : Nat) (L : List InsZ) (size out : Int) (r n : List Int) : (rls p L size out r n).length = L.length + 26 := by simp [rls, ls_len, rl26]
theorem rls_low (p : Nat) (L : List InsZ) (size out : Int) (r n : List Int) {i : Nat} (h : i < L.length) : zat (rls p L size out r n) i = chz p r i := by
 unfold rls zat
 rw [List.getElem?_append_left (by rw [ls_len]; exact h)]
 exact ls_at _ _ _ h
theorem rls_high (p : Nat) (L : List InsZ) (size out : Int) (r n : List Int) (j : Nat) : zat (rls p L size out r n) (L.length + j) = zat (rl26 p L size out r n) j := by
 unfold rls zat
 rw [List.getElem?_append_right (by rw [ls_len]; omega), ls_len, Nat.add_sub_cancel_left]
theorem rl26_bd {p : Nat} (h3 : 3 <= p) (L : List InsZ) (size out : Int) (r n : List Int) : ∀ x, x ∈ rl26 p L size out r n -> 0 <= x /\ x < (p : Int) := by
 have e := fun x => emod_bounds x p h3
 have s := fun s f => smt_bd h3 L s f
 intro x hx
 simp only [rl26, List.mem_cons, List.not_mem_nil, or_false] at hx
 rcases hx with rfl | rfl | rfl | rfl | rfl | rfl | rfl | rfl | rfl | rfl | rfl | rfl | rfl | rfl | rfl | rfl | rfl | rfl | rfl | rfl | rfl | rfl | rfl | rfl | rfl | rfl <;> first | exact e _ | exact s _ _
theorem rls_bd {p : Nat} (h3 : 3 <= p) (L : List InsZ) (size out : Int) (r n : List Int) : ∀ x, x ∈ rls p L size out r n -> 0 <= x /\ x < (p : Int) := by
 intro x hx
 unfold rls at hx
 rcases List.mem_append.1 hx with h | h
 ·unfold ls at h
  obtain ⟨k, _, rfl⟩ := List.mem_map.1 h
  exact emod_bounds _ p h3
 ·exact rl26_bd h3 L size out r n x h
open Go.RowKit
theorem rpow_any (q : Nat) (a n : Int) (w : World) (hp : Num.Prime q) (h3 : 3 <= q) (hm : q <= 2147483647) (ha : -9223372036854775808 <= a) (ha2 : a <= 9223372036854775807) (hn : -9223372036854775808 <= n) (hn2 : n <= 9223372036854775807) :
  Calls Tryz.prog 93 #[.int .i64 q, .int .i64 a, .int .i64 n] w fun e w' => e = .returned (.int .i64 (powz q a n)) /\ w' = w := by
 by_cases h0 : 0 <= n
 ·obtain ⟨N, rfl⟩ := Int.eq_ofNat_of_zero_le h0
  rw [powz_ref_nat q N a hp h3]
  exact rpow_nat q N a w h3 hm ha ha2 (by omega)
 ·obtain ⟨N, hN⟩ := Int.eq_ofNat_of_zero_le (show 0 <= -n by omega)
  have e : n = -(N : Int) := by omega
  subst e
  rw [powz_ref_neg q N a hp h3 (by omega)]
  exact rpow_neg q N a w h3 hm ha ha2 (by omega) (by omega)
end Go.Proofs.YtjlngcmkgkiplaaGreatDoor
