
import Derived.RangeFuncNested
import Derived.RangeFuncBound
import Derived.RangeFuncCalls
import Derived.RangeFuncLeaves
import Derived.RangeFuncBox
import Derived.RangeFuncWrites
import Derived.Shelf.Abstract
import Derived.WalkKit
import Derived.OwnWalkIn
import Derived.TacticsInMore
import Derived.LoopNIn
import Derived.LoopIn
import Derived.Test.YtjlngcmkgkiplaaGreatDoorFld
import Derived.Deep.OwnRows
import Derived.Shelf.RegionOpen
import Derived.RegionIn
import Derived.Sort.CutIn
import Derived.Test.YtjlngcmkgkiplaaGreatDoorWcAJ
import Derived.Test.YtjlngcmkgkiplaaGreatDoorWcAK
import Derived.Test.YtjlngcmkgkiplaaGreatDoorWcAU
set_option maxRecDepth 1000000
set_option maxHeartbeats 8000000
namespace Go.Proofs.YtjlngcmkgkiplaaGreatDoor
open Go.RowKit Go.Shelf
attribute [local go_sem] Oper.semAt_some
theorem intInfo : (Tryz.prog.info? 3).map (fun i => (i.zero, i.size, i.bytes)) = some (some (.int .i64 0), 1, 8) := by kernel_rfl
open Go.RowKit
theorem nb_red (p : Nat) (y : Int) (c : Int × Int) : nb p y (red p c) = nb p y c := by
 unfold nb red
 simp only
 rw [Int.add_emod, Int.emod_emod_of_dvd _ (Int.dvd_refl _), Int.mul_emod (c.2 % (p : Int)), Int.emod_emod_of_dvd c.2 (Int.dvd_refl _), <- Int.mul_emod, <- Int.add_emod]
theorem prd_red (p : Nat) (x y : Int) (L : List (Int × Int)) : ∀ k, k <= L.length -> prd p x y (L.map (red p)) k = prd p x y L k
 | 0, _ => rfl
 | k + 1, h => by
  have e : cat (L.map (red p)) k = red p (cat L k) := by simp [cat, show k < L.length by omega]
  rw [prd, prd, prd_red p x y L k (by omega), e, nb_red]
def pab (q : Nat) (rows : List (List Int)) (x y : Int) (a v i : Nat) : Int := prd q x y (rw4 (rat rows i) a v) 4
def ivF (f : Nat -> Int) (k i : Nat) : Value := .int .i64 (if i < k then f i else 0)
theorem ivF_set (f : Nat -> Int) (k : Nat) (i : Nat) : (if i = k then Value.int .i64 (f k) else ivF f k i) = ivF f (k + 1) i := by
 unfold ivF
 by_cases e : i = k
 ·subst e; rw [if_pos rfl, if_pos (by omega)]
 ·rw [if_neg e]
  by_cases h : i < k
  ·rw [if_pos h, if_pos (by omega)]
  ·rw [if_neg h, if_neg (by omega)]
theorem row_below {g n N : Nat} {F : Nat -> Value} {t : TypeId} {w w' : World} (h : w.rowIs g t n F) (hb : Below N w w') (hg : g < N) : w'.rowIs g t n F := by
 obtain ⟨cs, h1, h2⟩ := h
 exact ⟨cs, (hb.block g hg).trans h1, h2⟩
theorem factors_any (q b ck : Nat) (ak : Option Addr) (r : List Int) (x y : Int) (w : World) (h3 : 3 <= q) (h4 : q <= 2147483647) (hp : w.cell? ⟨b, 0, none⟩ = some (.int .i64 q)) (hL : RowB w.heap.size w ak r) (hF : Fits r) (hn : r.length <= 17592186044416) (hg : 20 <= r.length)
  (hx1 : -9223372036854775808 <= x) (hx2 : x <= 9223372036854775807) (hy1 : -9223372036854775808 <= y) (hy2 : y <= 9223372036854775807) :
  Calls Tryz.prog 91 #[.pointer (some ⟨b, 0, none⟩), .slice ak r.length ck, .int .i64 x, .int .i64 y] w fun e w' => e = .returned (.tuple #[.int .i64 (prd q x y (rw4 r 3 7) 4), .int .i64 (prd q x y (rw4 r 12 16) 4)]) /\ Below w.heap.size w w' := by
 have hbl : b < w.heap.size := World.block_lt_of_cell? _ _ hp
 have hcb : ∀ a v, CelB (rw4 r a v) := fun a v k hk => by
  rw [rw4_len] at hk
  rw [rw4_at _ _ _ _ hk]
  exact ⟨Fits.all hF _, Fits.all hF _⟩
 have HRP : Hid (∀ W, Below w.heap.size w W -> ∀ a v : Nat, a + 4 <= 20 -> v + 4 <= 20 -> Calls Tryz.prog 120 #[.slice ak r.length ck, .int .i64 (a : Int), .int .i64 (v : Int)] W fun e w' => ∃ K, e = .returned (.slice (some ⟨K, 0, none⟩) 4 4) /\ W.heap.size <= K /\ CRow K w' (rw4 r a v) /\ Below W.heap.size W w') := fun W hW a v h1 h2 =>
  rowPairs_any ck a v ak r W (RowB.mono hW.size (RowB.below hW hL)) hn (by omega) (by omega)
 have HPD : Hid (∀ (W : World) (K a v : Nat), Below w.heap.size w W -> CRow K W (rw4 r a v) -> Calls Tryz.prog 119 #[.pointer (some ⟨b, 0, none⟩), .slice (some ⟨K, 0, none⟩) 4 4, .int .i64 x, .int .i64 y] W fun e w' => e = .returned (.int .i64 (prd q x y (rw4 r a v) 4)) /\ Below W.heap.size W w') := fun W K a v hW hK => by
  have h := pprod_any q b 4 (some ⟨K, 0, none⟩) (rw4 r a v) x y W h3 h4 ((hW.cell (p := ⟨b, 0, none⟩) hbl).trans hp) hx1 hx2 hy1 hy2 (by rw [rw4_len]; omega) (hK.lst (by rw [rw4_len]; exact Nat.le_refl _)) (hcb a v)
  rw [rw4_len] at h
  exact h
 have HR1 := hid (HRP.out w (Below.refl _ _) 3 7 (by omega) (by omega))
 have HR2 := hid (fun W hW => HRP.out W hW 12 16 (by omega) (by omega))
 have HP1 := hid (fun W K hW hK => HPD.out W K 3 7 hW hK)
 have HP2 := hid (fun W K hW hK => HPD.out W K 12 16 hW hK)
 have hg2 : ¬ (r.length : Int) < 20 := by omega
 generalize prd q x y (rw4 r 3 7) 4 = va at *
 generalize prd q x y (rw4 r 12 16) 4 = vb at *
 clear hL hF hcb hg HRP HPD hp
 generalize r.length = rl at *
 go_enter Tryz.func91, Tryz.ntmps91
 go_wp2_with fail
 refine HR1.out.mono ?_
 rintro e w2 ⟨K, rfl, hK, hrow, hb2⟩
 have HB2 := hid hb2
 have HQ1 := hid (HP1.out w2 K hb2 hrow)
 clear hrow hb2 hK HR1
 go_wp2_with fail
 refine HQ1.out.mono ?_
 rintro e w3 ⟨rfl, hb3⟩
 have HB3 := hid (HB2.out.trans (hb3.mono HB2.out.size))
 clear hb3 HQ1 HP1 HB2
 go_wp2_with fail
 refine (HR2.out w3 HB3.out).mono ?_
 rintro e w5 ⟨K2, rfl, hK2, hrow2, hb5⟩
 have HB5 := hid (HB3.out.trans (hb5.mono HB3.out.size))
 have HQ2 := hid (HP2.out w5 K2 HB5.out hrow2)
 clear hrow2 hb5 hK2 HR2 HB3
 go_wp2_with fail
 refine HQ2.out.mono ?_
 rintro e w6 ⟨rfl, hb6⟩
 have HB6 := hid (HB5.out.trans (hb6.mono HB5.out.size))
 clear hb6 HQ2 HP2 HB5
 go_wp2_with fail
 go_ret2
 exact ⟨rfl, HB6.out⟩
open Go.RowKit Go.Maps
def colz (rows : List (List Int)) (i : Nat) : List Int := rows.map fun r => zat r i
theorem colz_len (rows : List (List Int)) (i : Nat) : (colz rows i).length = rows.length := by simp [colz]
theorem colz_at (rows : List (List Int)) (i j : Nat) (h : j < rows.length) : zat (colz rows i) j = zat (rat rows j) i := by simp [colz, zat, rat, h]
theorem colz_ls (rows : List (List Int)) (i : Nat) : colz rows i = ls (fun j => zat (rat rows j) i) rows.length := by
 apply List.ext_getElem
 ·simp [colz, ls]
 ·intro j h1 h2
  have hj : j < rows.length := by simpa [colz] using h1
  simp [colz, ls, rat, hj]
theorem pt_bd {q : Nat} (h3 : 3 <= q) (s r : Int) (i : Nat) : 0 <= Dom.pt q s r i /\ Dom.pt q s r i < (q : Int) := emod_bounds (s * r ^ i) q h3
theorem fits_colz {rows : List (List Int)} (h : FitsR rows) (i : Nat) : Fits (colz rows i) := fun k hk => by
 rw [colz_len] at hk
 rw [colz_at rows i k hk]
 exact Fits.all (h k hk).1 i
end Go.Proofs.YtjlngcmkgkiplaaGreatDoor
