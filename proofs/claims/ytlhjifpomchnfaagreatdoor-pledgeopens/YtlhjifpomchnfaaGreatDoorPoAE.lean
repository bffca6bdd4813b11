
import Derived.Test.YtlhjifpomchnfaaGreatDoorPoAD
import Derived.Test.YtlhjifpomchnfaaGreatDoorPlain
import Derived.Test.YtlhjifpomchnfaaGreatDoorRefs
import Derived.Test.YtlhjifpomchnfaaGreatDoorSpgs
import Derived.Test.YtlhjifpomchnfaaGreatDoorPls
import Derived.StillTailTactics
import Derived.Test.YtlhjifpomchnfaaGreatDoorPoAB
import Derived.Test.YtlhjifpomchnfaaGreatDoorDoms
set_option maxRecDepth 1000000
set_option maxHeartbeats 8000000
namespace Go.Proofs.YtlhjifpomchnfaaGreatDoor.Sum
open Pol Dom
def prz (f : Nat -> Int) : Nat -> Int
 | 0 => 1
 | n + 1 => prz f n * f n
theorem prz_same {f g : Nat -> Int} {n : Nat} (h : ∀ i, i < n -> f i = g i) : prz f n = prz g n := by
 induction n with
 | zero => rfl
 | succ n ih => simp only [prz]; rw [ih (fun i hi => h i (by omega)), h n (by omega)]
theorem dvd_mul_sub {p : Nat} {a b c d : Int} (h : (p : Int) ∣ a - b) (k : (p : Int) ∣ c - d) : (p : Int) ∣ a * c - b * d := by
 have h1 := Int.dvd_mul_of_dvd_left (c := c) h
 have h2 := Int.dvd_mul_of_dvd_right (b := b) k
 have := Int.dvd_add h1 h2
 rwa [show (a - b) * c + b * (c - d) = a * c - b * d from by grind] at this
theorem dvd_add_sub {p : Nat} {a b c d : Int} (h : (p : Int) ∣ a - b) (k : (p : Int) ∣ c - d) : (p : Int) ∣ (a + c) - (b + d) := by
 have := Int.dvd_add h k
 rwa [show (a - b) + (c - d) = (a + c) - (b + d) from by omega] at this
theorem prz_congr {p : Nat} {f g : Nat -> Int} {n : Nat} (h : ∀ i, i < n -> (p : Int) ∣ f i - g i) : (p : Int) ∣ prz f n - prz g n := by
 induction n with
 | zero => simp [prz]
 | succ n ih => simp only [prz]; exact dvd_mul_sub (ih (fun i hi => h i (by omega))) (h n (by omega))
theorem sm_split (f : Nat -> Int) (m n : Nat) : sm f (m + n) = sm f m + sm (fun i => f (m + i)) n := by
 induction n with
 | zero => simp [sm]
 | succ n ih => rw [<- Nat.add_assoc, sm, ih, sm]; omega
def wgt (at' : Nat -> Int) (v i : Nat) : Int := prz (fun k => if (i / 2 ^ k) % 2 = 0 then 1 - at' (v - 1 - k) else at' (v - 1 - k)) v
def ext (t at' : Nat -> Int) (v : Nat) : Int := sm (fun i => t i * wgt at' v i) (2 ^ v)
theorem hi_bit {v i k : Nat} (hk : k < v) : (i + 2 ^ v) / 2 ^ k % 2 = i / 2 ^ k % 2 := by
 obtain ⟨d, rfl⟩ : ∃ d, v = k + 1 + d := ⟨v - k - 1, by omega⟩
 have e : 2 ^ (k + 1 + d) = 2 ^ k * (2 * 2 ^ d) := by rw [Nat.pow_add, Nat.pow_succ, Nat.mul_assoc]
 rw [e, Nat.add_mul_div_left _ _ (Nat.two_pow_pos k)]
 omega
theorem wgt_low (at' : Nat -> Int) (v i : Nat) : prz (fun k => if (i / 2 ^ k) % 2 = 0 then 1 - at' (v + 1 - 1 - k) else at' (v + 1 - 1 - k)) v = wgt (fun j => at' (j + 1)) v i := by
 unfold wgt
 refine prz_same (fun k hk => ?_)
 rw [show v + 1 - 1 - k = v - 1 - k + 1 from by omega]
theorem wgt_lo (at' : Nat -> Int) {v i : Nat} (h : i < 2 ^ v) : wgt at' (v + 1) i = wgt (fun j => at' (j + 1)) v i * (1 - at' 0) := by
 unfold wgt
 rw [prz, wgt_low]
 rw [show v + 1 - 1 - v = 0 from by omega, Nat.div_eq_of_lt h]
 rfl
theorem wgt_hi (at' : Nat -> Int) {v i : Nat} (h : i < 2 ^ v) : wgt at' (v + 1) (2 ^ v + i) = wgt (fun j => at' (j + 1)) v i * at' 0 := by
 unfold wgt
 rw [prz, wgt_low]
 have e : (2 ^ v + i) / 2 ^ v % 2 = 1 := by
  rw [Nat.add_div_left _ (Nat.two_pow_pos v), Nat.div_eq_of_lt h]
 rw [show v + 1 - 1 - v = 0 from by omega, e]
 congr 1
 unfold wgt
 refine prz_same (fun k hk => ?_)
 rw [Nat.add_comm, hi_bit hk]
theorem ext_succ (t at' : Nat -> Int) (v : Nat) : ext t at' (v + 1) = ext (fun i => t i * (1 - at' 0) + t (i + 2 ^ v) * at' 0) (fun j => at' (j + 1)) v := by
 unfold ext
 rw [show 2 ^ (v + 1) = 2 ^ v + 2 ^ v from by rw [Nat.pow_succ]; omega, sm_split]
 have h1 : sm (fun i => t i * wgt at' (v + 1) i) (2 ^ v) = sm (fun i => t i * (1 - at' 0) * wgt (fun j => at' (j + 1)) v i) (2 ^ v) := sm_same (fun i hi => by rw [wgt_lo at' hi]; grind)
 have h2 : sm (fun i => t (2 ^ v + i) * wgt at' (v + 1) (2 ^ v + i)) (2 ^ v) = sm (fun i => t (i + 2 ^ v) * at' 0 * wgt (fun j => at' (j + 1)) v i) (2 ^ v) := sm_same (fun i hi => by rw [wgt_hi at' hi, Nat.add_comm]; grind)
 rw [h1, h2, <- sm_add]
 exact sm_same (fun i _ => by grind)
theorem ext_zero (t at' : Nat -> Int) : ext t at' 0 = t 0 := by simp [ext, sm, wgt, prz]
theorem ext_congr {p : Nat} {t u at' bt : Nat -> Int} {v : Nat} (h : ∀ i, i < 2 ^ v -> (p : Int) ∣ t i - u i) (k : ∀ j, j < v -> (p : Int) ∣ at' j - bt j) : (p : Int) ∣ ext t at' v - ext u bt v := by
 unfold ext
 refine sm_congr (fun i hi => dvd_mul_sub (h i hi) (prz_congr (fun b hb => ?_)))
 have := k (v - 1 - b) (by omega)
 split
 ·rwa [show 1 - at' (v - 1 - b) - (1 - bt (v - 1 - b)) = -(at' (v - 1 - b) - bt (v - 1 - b)) from by omega, Int.dvd_neg]
 ·exact this
theorem ext_same {t u at' bt : Nat -> Int} {v : Nat} (h : ∀ i, i < 2 ^ v -> t i = u i) (k : ∀ j, j < v -> at' j = bt j) : ext t at' v = ext u bt v := by
 unfold ext
 refine sm_same (fun i hi => ?_)
 rw [h i hi]
 congr 1
 exact prz_same (fun b hb => by rw [k (v - 1 - b) (by omega)])
end Go.Proofs.YtlhjifpomchnfaaGreatDoor.Sum
namespace Go.Proofs.YtlhjifpomchnfaaGreatDoor
open Go.RowKit
def pgc (rows : List (List Int)) (j : Nat) : List Int := rows.map fun r => zat r j
theorem pgc_len (rows : List (List Int)) (j : Nat) : (pgc rows j).length = rows.length := by simp [pgc]
theorem pgc_at {rows : List (List Int)} {i : Nat} (j : Nat) (h : i < rows.length) : zat (pgc rows j) i = zat (rat rows i) j := by
 simp [pgc, rat, zat, h]
theorem pgc_fits {rows : List (List Int)} (h : FitsR rows) (j : Nat) : Fits (pgc rows j) := fun i hi => by
 rw [pgc_len] at hi
 rw [pgc_at j hi]
 exact (h i hi).1.all j
def dtz (p n : Nat) (a b : List Int) : Int := Dom.sm (fun i => zat a i * zat b i) n % (p : Int)
theorem dtz_bounds (p n : Nat) (a b : List Int) (h3 : 3 <= p) : 0 <= dtz p n a b /\ dtz p n a b < p := emod_bounds _ p h3
theorem dtz_comm (p n : Nat) (a b : List Int) : dtz p n a b = dtz p n b a := by
 unfold dtz
 rw [Dom.sm_same (g := fun i => zat b i * zat a i) (fun i _ => Int.mul_comm _ _)]
theorem dtz_zero (p : Nat) (a b : List Int) : dtz p 0 a b = 0 := by simp [dtz, Dom.sm]
theorem dtz_succ (p n : Nat) (a b : List Int) : (dtz p n a b + zat a n * zat b n % (p : Int)) % (p : Int) = dtz p (n + 1) a b := by
 unfold dtz
 rw [Int.emod_add_emod, Int.add_emod_emod]
 rfl
def pwl (p : Nat) (r : Int) (n : Nat) : List Int := ls (fun i => ((Num.pwm p (el p r) i : Nat) : Int)) n
theorem pwl_len (p : Nat) (r : Int) (n : Nat) : (pwl p r n).length = n := ls_len _ _
theorem pwl_fits {p : Nat} (hm : p <= 2147483647) (h3 : 3 <= p) (r : Int) (n : Nat) : Fits (pwl p r n) := fun i hi => by
 rw [pwl_len] at hi
 unfold pwl
 rw [ls_at _ _ _ hi]
 have := Num.pwm_lt p (el p r) i (by omega)
 omega
theorem pwm_dvd {p : Nat} (h3 : 3 <= p) (r : Int) (i : Nat) : (p : Int) ∣ ((Num.pwm p (el p r) i : Nat) : Int) - r ^ i := by
 have h0 := emod_bounds r p h3
 have he : ((el p r : Nat) : Int) = r % (p : Int) := by unfold el; omega
 have h1 : ((Num.pwm p (el p r) i : Nat) : Int) = (r % (p : Int)) ^ i % (p : Int) := by
  unfold Num.pwm
  rw [<- he]
  simp
 rw [h1]
 apply Int.dvd_of_emod_eq_zero
 rw [Int.sub_emod, Int.emod_emod]
 have : (r % (p : Int)) ^ i % (p : Int) = r ^ i % (p : Int) := by
  clear h1
  induction i with
  | zero => rw [Int.pow_zero, Int.pow_zero]
  | succ i ih => rw [Int.pow_succ, Int.pow_succ, Int.mul_emod, ih, Int.emod_emod, <- Int.mul_emod]
 rw [this]
 simp
theorem ps_sm (f : Nat -> Int) (x : Int) (n : Nat) : Pol.ps f x n = Dom.sm (fun i => f i * x ^ i) n := by
 induction n with
 | zero => rfl
 | succ n ih => simp only [Pol.ps, Dom.sm]; rw [ih]
theorem emod_of_dvd {p : Nat} {a b : Int} (h : (p : Int) ∣ a - b) : a % (p : Int) = b % (p : Int) := by
 have := Int.emod_eq_emod_iff_emod_sub_eq_zero (n := (p : Int)) (m := a) (k := b)
 exact this.2 (Int.emod_eq_zero_of_dvd h)
theorem evz_dtz {p : Nat} (h3 : 3 <= p) (zs : List Int) (r : Int) : evz p zs r = dtz p zs.length (pwl p r zs.length) zs := by
 unfold evz dtz
 rw [ps_sm]
 apply emod_of_dvd
 refine Dom.sm_congr (fun i hi => ?_)
 unfold pwl
 rw [ls_at _ _ _ hi]
 obtain ⟨k, hk⟩ := pwm_dvd h3 r i
 exact ⟨-(k * zat zs i), by
  rw [show ((Num.pwm p (el p r) i : Nat) : Int) = (p : Int) * k + r ^ i from by omega]
  grind⟩
def wgL (p : Nat) (at' : List Int) : List Int := ls (fun i => Sum.wgt (zat at') at'.length i % (p : Int)) (2 ^ at'.length)
theorem wgL_len (p : Nat) (at' : List Int) : (wgL p at').length = 2 ^ at'.length := ls_len _ _
theorem wgL_fits {p : Nat} (hm : p <= 2147483647) (h3 : 3 <= p) (at' : List Int) : Fits (wgL p at') := fun i hi => by
 rw [wgL_len] at hi
 unfold wgL
 rw [ls_at _ _ _ hi]
 have := emod_bounds (Sum.wgt (zat at') at'.length i) p h3
 omega
theorem prz_front (f : Nat -> Int) (n : Nat) : Sum.prz f (n + 1) = f 0 * Sum.prz (fun k => f (k + 1)) n := by
 induction n with
 | zero => simp [Sum.prz]
 | succ n ih =>
  rw [Sum.prz, ih, Sum.prz]
  grind
theorem wgt_two (at' : Nat -> Int) (v i b : Nat) (hb : b < 2) : Sum.wgt at' (v + 1) (2 * i + b) = Sum.wgt at' v i * (if b = 0 then 1 - at' v else at' v) := by
 unfold Sum.wgt
 rw [prz_front, Int.mul_comm]
 congr 1
 ·refine Sum.prz_same (fun k hk => ?_)
  have h1 : (2 * i + b) / 2 ^ (k + 1) = i / 2 ^ k := by
   rw [Nat.pow_succ, Nat.mul_comm (2 ^ k) 2, <- Nat.div_div_eq_div_mul, show (2 * i + b) / 2 = i from by omega]
  rw [h1, show v + 1 - 1 - (k + 1) = v - 1 - k from by omega]
 ·rw [show (2 * i + b) / 2 ^ 0 % 2 = b from by rw [Nat.pow_zero, Nat.div_one]; omega, show v + 1 - 1 - 0 = v from by omega]
theorem sm_hit {f : Nat -> Int} {n k : Nat} (hk : k < n) (h : ∀ i, i < n -> i ≠ k -> f i = 0) : Dom.sm f n = f k := by
 induction n with
 | zero => omega
 | succ n ih =>
  simp only [Dom.sm]
  by_cases e : k = n
  ·subst e
   have : Dom.sm f k = Dom.sm (fun _ => 0) k := Dom.sm_same (fun i hi => h i (by omega) (by omega))
   rw [this, Dom.sm_zero]; omega
  ·rw [ih (by omega) (fun i hi => h i (by omega)), h n (by omega) (by omega)]; omega
theorem ext_unit (at' : Nat -> Int) (v i : Nat) (hi : i < 2 ^ v) (t : Nat -> Int) (h1 : t i = 1) (h0 : ∀ j, j < 2 ^ v -> j ≠ i -> t j = 0) : Sum.ext t at' v = Sum.wgt at' v i := by
 unfold Sum.ext
 rw [sm_hit hi (fun j hj hne => by rw [h0 j hj hne]; omega), h1]
 omega
def smr (p n : Nat) (by' : List Int) (rows : List (List Int)) (m : Nat) : List Int := ls (fun j => dtz p n by' (pgc rows j)) m
theorem smr_len (p n : Nat) (by' : List Int) (rows : List (List Int)) (m : Nat) : (smr p n by' rows m).length = m := ls_len _ _
theorem smr_fits {p : Nat} (hm : p <= 2147483647) (h3 : 3 <= p) (n : Nat) (by' : List Int) (rows : List (List Int)) (m : Nat) : Fits (smr p n by' rows m) := fun i hi => by
 rw [smr_len] at hi
 unfold smr
 rw [ls_at _ _ _ hi]
 have := dtz_bounds p n by' (pgc rows i) h3
 omega
def wiB (m : Nat) (rows : List (List Int)) : Bool := rows.all fun r => r.length == m
theorem wiB_yes {m : Nat} {rows : List (List Int)} (h : ∀ k, k < rows.length -> (rat rows k).length = m) : wiB m rows = true := by
 unfold wiB
 rw [List.all_eq_true]
 intro r hr
 obtain ⟨k, hk, rfl⟩ := List.mem_iff_getElem.1 hr
 have := h k hk
 simp [rat, hk] at this
 simp [this]
theorem wiB_at {m : Nat} {rows : List (List Int)} (h : wiB m rows = true) {k : Nat} (hk : k < rows.length) : (rat rows k).length = m := by
 unfold wiB at h
 rw [List.all_eq_true] at h
 have := h rows[k] (List.getElem_mem hk)
 simp at this
 simp [rat, hk, this]
theorem wiB_no {m k : Nat} {rows : List (List Int)} (hk : k < rows.length) (h : (rat rows k).length ≠ m) : wiB m rows = false := by
 cases e : wiB m rows with
 | false => rfl
 | true => exact absurd (wiB_at e hk) h
theorem anot_any (n cap m B : Nat) (a : Option Addr) (w : World) (h : w.cell? ⟨B, 0, none⟩ = some (.int .i64 (m : Int))) :
  Calls Tryz.prog 177 #[.slice a n cap, .pointer (some ⟨B, 0, none⟩)] w fun e w' => e = .returned (.bool (!((n : Int) == (m : Int)))) /\ w' = w := by
 go_enter Tryz.func177, Tryz.ntmps177
 go_wp2_with fail
 go_ret
 exact ⟨rfl, rfl⟩
theorem aindex_any (cap m B : Nat) (a : Option Addr) (rows : List (List Int)) (w : World) (h : w.cell? ⟨B, 0, none⟩ = some (.int .i64 (m : Int))) (hlen : rows.length <= 281474976710656) (hl : LstR w.heap.size w a cap rows) :
  Calls Tryz.prog 215 #[.slice a rows.length cap, .func (.func 177) #[] #[.pointer (some ⟨B, 0, none⟩)]] w fun e w' => (∃ r : Int, e = .returned (.int .i64 r) /\ decide (0 <= r) = !(wiB m rows)) /\ w' = w := by
 have hcf := enters_of Tryz.func177 (by kernel_rfl) (by kernel_rfl)
 have HL := hid hl
 have HE1 : Hid (∀ (k : Nat) (ak : Option Addr) (ck : Nat), Calls Tryz.prog 177 #[.slice ak (rat rows k).length ck, .pointer (some ⟨B, 0, none⟩)] w fun e w' => e = .returned (.bool (!(((rat rows k).length : Int) == (m : Int)))) /\ w' = w) := fun k ak ck => anot_any _ ck m B ak w h
 obtain ⟨n, hn⟩ := exE (rows.length)
 rw [<- hn] at hlen ⊢
 have HN := hid hn
 obtain ⟨R, hR⟩ := exE (wiB m rows)
 have HR := hid hR
 rw [<- hR]
 clear hl hn hR
 go_enter Tryz.func215, Tryz.ntmps215
 go_wp2_with fail
 go_loop [8] (fun iv => ∃ k : Nat, k <= n /\ iv = .int .i64 k /\ Hid (∀ j, j < k -> (rat rows j).length = m)) (fun iv => n - (intOf iv).toNat)
 case atStart => exact ⟨0, by omega, rfl, fun j hj => by omega⟩
 case round =>
  obtain ⟨k, hk, rfl, hI⟩ := hrel
  by_cases hlt : k < n
  ·have hlt2 : (k : Int) < (n : Int) := by omega
   have hks : IntKind.i64.wrap ((k : Int) + 1) = (k : Int) + 1 := by rw [IntKind.wrap_i64]; omega
   obtain ⟨b0, o0, ak, ck, rfl, _, hc, _⟩ := HL.out.row k (by rw [<- HN.out]; exact hlt)
   have HX := HE1.out k ak ck
   by_cases hb : (rat rows k).length = m
   ·have q : (((rat rows k).length : Int) == (m : Int)) = true := by rw [hb, beq_self_eq_true]
    rw [q] at HX
    have HXX := hid HX
    have HE : Hid (∀ j, j < k + 1 -> (rat rows j).length = m) := fun j hj => by
     by_cases e : j = k
     ·rw [e]; exact hb
     ·exact hI.out j (by omega)
    clear hI HX hb q
    generalize (rat rows k).length = L at *
    go_wp2_with fail
    refine HXX.out.mono ?_
    rintro e w1 ⟨rfl, rfl⟩
    go_wp2_with fail
    go_round
    case rel => exact ⟨k + 1, by omega, by go_num, HE⟩
    case measure => simp [intOf]; omega
   ·have q : (((rat rows k).length : Int) == (m : Int)) = false := by rw [beq_eq_false_iff_ne]; omega
    rw [q] at HX
    have HXX := hid HX
    have HE : Hid (R = false) := by unfold Hid; rw [HR.out]; exact wiB_no (by rw [<- HN.out]; exact hlt) hb
    clear hI HX hb q
    generalize (rat rows k).length = L at *
    go_wp2_with fail
    refine HXX.out.mono ?_
    rintro e w1 ⟨rfl, rfl⟩
    go_wp2_with fail
    go_ret
    refine ⟨⟨(k : Int), rfl, ?_⟩, rfl⟩
    rw [HE.out]
    simp
  ·obtain rfl : k = n := by omega
   have hlt2 : ¬ (k : Int) < (k : Int) := by omega
   have HE : Hid (R = true) := by unfold Hid; rw [HR.out]; exact wiB_yes (fun j hj => hI.out j (by rw [HN.out]; exact hj))
   clear hI
   go_wp2_with fail
   go_ret
   refine ⟨⟨-1, rfl, ?_⟩, rfl⟩
   rw [HE.out]
   simp
theorem acontains_any (cap m B : Nat) (a : Option Addr) (rows : List (List Int)) (w : World) (h : w.cell? ⟨B, 0, none⟩ = some (.int .i64 (m : Int))) (hlen : rows.length <= 281474976710656) (hl : LstR w.heap.size w a cap rows) :
  Calls Tryz.prog 176 #[.slice a rows.length cap, .func (.func 177) #[] #[.pointer (some ⟨B, 0, none⟩)]] w fun e w' => e = .returned (.bool (!(wiB m rows))) /\ w' = w := by
 have HI := hid (aindex_any cap m B a rows w h hlen hl)
 clear hl h
 generalize wiB m rows = E at *
 generalize rows.length = n at *
 go_enter Tryz.func176, Tryz.ntmps176
 go_wp2_with fail
 refine HI.out.mono ?_
 rintro e w1 ⟨⟨r, rfl, hr⟩, rfl⟩
 have HRR := hid hr
 clear hr HI
 go_wp2_with fail
 go_ret
 exact ⟨by rw [<- HRR.out]; rfl, rfl⟩
theorem areWide_any (cap m : Nat) (a : Option Addr) (rows : List (List Int)) (w : World) (hlen : rows.length <= 281474976710656) (hl : LstR w.heap.size w a cap rows) :
  Calls Tryz.prog 112 #[.slice a rows.length cap, .int .i64 (m : Int)] w fun e w' => e = .returned (.bool (wiB m rows)) /\ Below w.heap.size w w' := by
 obtain ⟨W0, hW0⟩ := exE (w.alloc (.cells #[.int .i64 (m : Int)] 3))
 have hb0 := blA hW0
 have hs0 := haA hW0
 have HC := hid (acontains_any cap m w.heap.size a rows W0 (by simp [World.cell?, hs0]) hlen ((hl.below hb0).mono hb0.size))
 have HB0 := hid hb0
 clear hl hb0 hs0
 generalize wiB m rows = E at *
 generalize rows.length = n at *
 go_enter Tryz.func112, Tryz.ntmps112
 go_wp2_with fail
 rw [<- hW0]
 clear hW0
 refine HC.out.mono ?_
 rintro e w1 ⟨rfl, hw⟩
 have hw1 := hw.symm
 subst hw1
 go_wp2_with fail
 go_ret
 exact ⟨by first | rfl | simp, HB0.out⟩
theorem column_any (cap j : Nat) (a : Option Addr) (rows : List (List Int)) (w : World) (hn : rows.length <= 17592186044000) (hj : ∀ k, k < rows.length -> j < (rat rows k).length) (hl : LstR w.heap.size w a cap rows) :
  Calls Tryz.prog 143 #[.slice a rows.length cap, .int .i64 (j : Int)] w fun e w' => e = .returned (.slice (some ⟨w.heap.size, 0, none⟩) rows.length rows.length) /\ ArrI w' w.heap.size 3 rows.length (zat (pgc rows j)) /\ Below w.heap.size w w' := by
 have HL := hid hl
 have HJ := hid hj
 obtain ⟨n, hnn⟩ := exE (rows.length)
 rw [<- hnn] at hn ⊢
 have HN := hid hnn
 obtain ⟨G, hG⟩ : ∃ G : Nat -> Int, G = zat (pgc rows j) := ⟨_, rfl⟩
 rw [<- hG]
 have HG : Hid (∀ k, k < n -> zat (rat rows k) j = G k) := fun k hk => by rw [hG, pgc_at j (by omega)]
 have hmk2 := fun w => run_make_row' (P := Tryz.prog) 22 3 (.int .i64 0) 8 Tryz.underlying22 Tryz.infoInt rfl .i64 .i64 n (by omega) (by omega) w
 clear hl hj hnn hG
 go_enter Tryz.func143, Tryz.ntmps143
 go_wp2_with fail
 go_loopw [6, 7, 13] (fun _ _ iv wr => ∃ k : Nat, k <= n /\ iv = .int .i64 k /\ Hid (ArrI wr w.heap.size 3 n (fll G (fun _ => 0) k) /\ Below w.heap.size w wr)) (fun _ _ iv _ => n - (intOf iv).toNat)
 case atStart => exact ⟨0, by omega, rfl, by rw [fll_zero]; exact World.rowIs_made _ _ _ _, (Below.refl _ _).alloc (Nat.le_refl _) _⟩
 case round =>
  obtain ⟨k, hk, rfl, hI⟩ := hrel
  by_cases hlt : k < n
  ·have hlt2 : (k : Int) < (n : Int) := by omega
   have hks : IntKind.i64.wrap ((k : Int) + 1) = (k : Int) + 1 := by rw [IntKind.wrap_i64]; omega
   obtain ⟨b0, o0, ak, ck, rfl, hb0, hc, hlk⟩ := HL.out.row k (by rw [<- HN.out]; exact hlt)
   have hjk := HJ.out k (by rw [<- HN.out]; exact hlt)
   obtain ⟨b1, o1, rfl, hb1, hd⟩ := hlk.row j hjk
   have hc2 := (hI.out.2.cell (p := ⟨b0, o0 + k, none⟩) hb0).trans hc
   have hd2 := (hI.out.2.cell (p := ⟨b1, o1 + j, none⟩) hb1).trans hd
   rw [HG.out k hlt] at hd2
   have hjk2 : (j : Int) < ((rat rows k).length : Int) := by omega
   have c1 := hI.out.1.cell hlt
   have y1 := hI.out.1.frozen k
   have HA2 := hid hI.out.1.next
   have HBL := hid (hI.out.2.setCell (p := ⟨w.heap.size, k, none⟩) (by simp) (.int .i64 (G k)))
   generalize (rat rows k).length = L at *
   generalize G k = y at *
   generalize fll G (fun _ => 0) k k = y0 at *
   clear hI hc hd hlk
   go_wp2_with fail
   go_roundw
   case rel => exact ⟨k + 1, by omega, by go_num, HA2.out, HBL.out⟩
   case measure => simp [intOf]; omega
  ·obtain rfl : k = n := by omega
   have hlt2 : ¬ (k : Int) < (k : Int) := by omega
   have HE : Hid (ArrI wr w.heap.size 3 k G /\ Below w.heap.size w wr) := ⟨hI.out.1.congr (fun j hj => fll_all hj), hI.out.2⟩
   clear hI
   go_wp2_with fail
   go_ret
   exact ⟨rfl, HE.out⟩
theorem pacross_any (F cap m : Nat) (caps : Array Value) (A : List Int -> Int) (a : Option Addr) (rows : List (List Int)) (w : World) (h1 : 1 <= rows.length) (hn : rows.length <= 17592186044000) (hm : m <= 17592186044000) (hw : ∀ k, k < rows.length -> (rat rows k).length = m) (hl : LstR w.heap.size w a cap rows)
  (hcf : ∀ (args : Array Value) (w1 : World), (callFunc F args).run Tryz.prog w1 = .ok (.enter F args) w1)
  (HQ : ∀ (W : World) (g j : Nat), Below w.heap.size w W -> j < m -> ArrI W g 3 rows.length (zat (pgc rows j)) -> Calls Tryz.prog F (#[.slice (some ⟨g, 0, none⟩) rows.length rows.length] ++ caps) W fun e w' => e = .returned (.int .i64 (A (pgc rows j))) /\ Below W.heap.size W w') :
  Calls Tryz.prog 82 #[.slice a rows.length cap, .func (.func F) #[] caps] w fun e w' => e = .returned (.slice (some ⟨w.heap.size, 0, none⟩) m m) /\ ArrI w' w.heap.size 3 m (fun j => A (pgc rows j)) /\ Below w.heap.size w w' := by
 have HCO : Hid (∀ (W : World) (j : Nat), Below w.heap.size w W -> j < m -> Calls Tryz.prog 143 #[.slice a rows.length cap, .int .i64 (j : Int)] W fun e w' => e = .returned (.slice (some ⟨W.heap.size, 0, none⟩) rows.length rows.length) /\ ArrI w' W.heap.size 3 rows.length (zat (pgc rows j)) /\ Below W.heap.size W w') :=
  fun W j hW hj => column_any cap j a rows W hn (fun k hk => by rw [hw k hk]; exact hj) ((hl.below hW).mono hW.size)
 have HQQ := hid HQ
 obtain ⟨b0, o0, a0, c0, rfl, hb0, hc0, _⟩ := hl.row 0 (by omega)
 rw [hw 0 (by omega), Nat.add_zero] at hc0
 obtain ⟨n, hnn⟩ := exE (rows.length)
 simp only [<- hnn] at HCO HQQ h1 hn ⊢
 have h1' : (0 : Int) < (n : Int) := by omega
 obtain ⟨G, hG⟩ : ∃ G : Nat -> Int, G = fun j => A (pgc rows j) := ⟨_, rfl⟩
 rw [<- hG]
 have HG : Hid (∀ k, A (pgc rows k) = G k) := fun k => by rw [hG]
 have hmk2 := fun w => run_make_row' (P := Tryz.prog) 22 3 (.int .i64 0) 8 Tryz.underlying22 Tryz.infoInt rfl .i64 .i64 m (by omega) (by omega) w
 clear hl hw hnn hG HQ
 go_enter Tryz.func82, Tryz.ntmps82
 go_wp2_with fail
 go_loopw [6, 14] (fun _ iv wr => ∃ k : Nat, k <= m /\ iv = .int .i64 k /\ Hid (ArrI wr w.heap.size 3 m (fll G (fun _ => 0) k) /\ Below w.heap.size w wr)) (fun _ iv _ => m - (intOf iv).toNat)
 case atStart => exact ⟨0, by omega, rfl, by rw [fll_zero]; exact World.rowIs_made _ _ _ _, (Below.refl _ _).alloc (Nat.le_refl _) _⟩
 case round =>
  obtain ⟨k, hk, rfl, hI⟩ := hrel
  by_cases hlt : k < m
  ·have hlt2 : (k : Int) < (m : Int) := by omega
   have hks : IntKind.i64.wrap ((k : Int) + 1) = (k : Int) + 1 := by rw [IntKind.wrap_i64]; omega
   go_wp2_with fail
   refine (HCO.out wr k hI.out.2 hlt).mono ?_
   rintro e w1 ⟨rfl, har, hb1⟩
   have HQ1 := hid (HQQ.out w1 wr.heap.size k (hI.out.2.trans (hb1.mono hI.out.2.size)) hlt har)
   rw [HG.out k] at HQ1
   have HA1 : Hid (ArrI w1 w.heap.size 3 m (fll G (fun _ => 0) k)) := hI.out.1.below hb1 hI.out.1.lt
   have HB1 : Hid (Below w.heap.size w w1) := hI.out.2.trans (hb1.mono hI.out.2.size)
   clear hI har hb1
   go_wp2_with fail
   refine HQ1.out.mono ?_
   rintro e w2 ⟨rfl, hb2⟩
   have hA := HA1.out.below hb2 HA1.out.lt
   have c1 := hA.cell hlt
   have y1 := hA.frozen k
   have HA2 := hid hA.next
   have HBL := hid ((HB1.out.trans (hb2.mono HB1.out.size)).setCell (p := ⟨w.heap.size, k, none⟩) (by simp) (.int .i64 (G k)))
   generalize G k = y at *
   generalize fll G (fun _ => 0) k k = y0 at *
   clear hA hb2 HA1 HB1 HQ1
   go_wp2_with fail
   go_roundw
   case rel => exact ⟨k + 1, by omega, by go_num, HA2.out, HBL.out⟩
   case measure => simp [intOf]; omega
  ·obtain rfl : k = m := by omega
   have hlt2 : ¬ (k : Int) < (k : Int) := by omega
   have HE : Hid (ArrI wr w.heap.size 3 k G /\ Below w.heap.size w wr) := ⟨hI.out.1.congr (fun j hj => fll_all hj), hI.out.2⟩
   clear hI
   go_wp2_with fail
   go_ret
   exact ⟨rfl, HE.out⟩
open Go.RowKit Pol
end Go.Proofs.YtlhjifpomchnfaaGreatDoor
