/- The reference of package gates: On, Through. The law GatesCatches, plainly: how many elements hide what is not so. -/
import Derived.Test.YtaapbopcfpihbabGreatDoorGkAQ
import Derived.Test.YtaapbopcfpihbabGreatDoorGkAG
import Derived.Test.YtaapbopcfpihbabGreatDoorGkAL
import Derived.Test.YtaapbopcfpihbabGreatDoorGkAI
namespace Go.Proofs.YtaapbopcfpihbabGreatDoor
open Go.RowKit

/-- a point of the line through two points -/
def onl (p : Nat) (x y : List Int) (t : Int) : List Int := ls (fun i => (zat x i + t * (zat y i - zat x i)) % (p : Int)) x.length
theorem on_eq (p : Nat) (x y t : Int) : (x + t * ((y - x) % (p : Int)) % (p : Int)) % (p : Int) = (x + t * (y - x)) % (p : Int) := by
  refine emod_of_dvd ?_
  have h1 := Pol.emod_dvd p (t * ((y - x) % (p : Int)))
  have h2 : (p : Int) ∣ t * ((y - x) % (p : Int) - (y - x)) := Int.dvd_mul_of_dvd_right (Pol.emod_dvd p (y - x))
  rw [Int.mul_sub] at h2
  have := Int.dvd_add h1 h2
  generalize t * ((y - x) % (p : Int)) % (p : Int) = A at *
  generalize t * ((y - x) % (p : Int)) = B at *
  generalize t * (y - x) = D at *
  rwa [show x + A - (x + D) = A - B + (B - D) from by omega]

set_option maxRecDepth 100000 in
set_option maxHeartbeats 2000000 in
theorem rthrough_any (p cap : Nat) (a : Option Addr) (l : List Int) (r : Int) (w : World) (h3 : 3 ≤ p) (hm : p ≤ 2147483647) (hl : l.length ≤ 17592186043904) (hf : Fits l) (hr1 : -9223372036854775808 ≤ r) (hr2 : r ≤ 9223372036854775807) (hrow : RowB w.heap.size w a l) :
    Calls Tryz.prog 28 #[.int .i64 p, .slice a l.length cap, .int .i64 r] w fun e w' => e = .returned (.int .i64 (atz p l r)) ∧ Below w.heap.size w w' := by
  obtain ⟨i0, hi, hz0, hz1, hz2⟩ := info_parts Tryz.infoInt
  have HF := hid hf
  have HR := hid hrow
  obtain ⟨n, hn⟩ : ∃ n, n = l.length := ⟨_, rfl⟩
  rw [← hn] at hl ⊢
  have HN := hid hn
  clear hf hrow hn
  go_enter Tryz.func28, Tryz.ntmps28
  go_wp2_with fail
  go_loopw [7, 8] (fun v iv wr => ∃ k : Nat, k ≤ n ∧ iv = .int .i64 k ∧ Hid (wr.ownsRow w.heap.size 3 1 v (cnt' k).length ((cnt' k).map (Value.int .i64)) ∧ Below w.heap.size w wr)) (fun _ iv _ => n - (intOf iv).toNat)
  case atStart => exact ⟨0, by omega, rfl, World.ownsRow_nil _ _ _ _, Below.refl _ _⟩
  case round =>
    obtain ⟨k, hk, rfl, hI⟩ := hrel
    by_cases hlt : k < n
    · have hlt2 : (k : Int) < (n : Int) := by omega
      have hks : IntKind.i64.wrap ((k : Int) + 1) = (k : Int) + 1 := by rw [IntKind.wrap_i64]; omega
      have hown := hI.out.1
      have hbel := hI.out.2
      have HLS := hid (cnt_len k)
      have HSC : Hid (cnt' (k + 1) = cnt' k ++ [(k : Int)]) := by unfold Hid cnt'; rw [ls_succ]
      generalize cnt' k = Z at *
      have hZ : Z.length ≤ 17592186043904 := by rw [HLS.out]; omega
      have hsz : w.heap.size ≤ wr.heap.size := hbel.size
      clear hI
      go_wp2_with (at_builtin; refine wpList_append_own _ rfl _ _ 25 rfl w.heap.size 3 i0 (.int .i64 0) 1 8 Tryz.underlying25 hi hz0 hz1 hz2 rfl (by decide) _ _ _ rfl (hown.alloc _) ⟨wr.heap.size, 0, none⟩ 1 1 [.int .i64 (k : Int)] rfl rfl ?c1 ?c2 ?c3 ?c4 ?c5 ?_)
      case c1 =>
        intro j u hj
        match j, hj with
        | 0, hj => simp at hj; subst hj; simp [Addr.add]
      case c2 => intro u hu; simp at hu; subst hu; rfl
      case c3 => unfold maxLen; omega
      case c4 => omega
      case c5 => simp; omega
      intro v' w5 hown2 hgrow _
      have hown3 := owns_succ hown2
      have HE : Hid (w5.ownsRow w.heap.size 3 1 v' (cnt' (k + 1)).length ((cnt' (k + 1)).map (Value.int .i64)) ∧ Below w.heap.size w w5) := by
        unfold Hid
        rw [HSC.out]
        exact ⟨hown3, (hbel.alloc hsz _).grown hgrow (by simp; omega) (fun j hj => (hown.lt j hj).1)⟩
      clear hown2 hown3 hgrow hown hbel
      go_wp2_with fail
      go_roundw
      case rel => exact ⟨k + 1, by omega, by go_num, HE⟩
      case measure => simp [intOf]; omega
    · obtain rfl : k = n := by omega
      have hlt2 : ¬ (k : Int) < (k : Int) := by omega
      obtain ⟨ax, cx, hv, hlx⟩ := lst_of_owns hI.out.1
      rw [cnt_len] at hv
      subst hv
      have HB := hid hI.out.2
      have HFI : Hid (Calls Tryz.prog 63 #[.int .i64 p, .slice ax k cx, .slice a k cap] wr fun e w' => ∃ a' c', e = .returned (.slice a' (pfit p (cnt' k) l).length c') ∧ RowB w'.heap.size w' a' (pfit p (cnt' k) l) ∧ Below wr.heap.size wr w') := by
        have h := rfit_any p cx cap ax a (cnt' k) l wr h3 hm (by rw [cnt_len]; exact hl) (fun j hj => by rw [cnt_len] at hj; unfold cnt'; rw [ls_at _ _ _ hj]; omega) HF.out hlx.row ((HR.out.below HB.out).mono HB.out.size) (by rw [cnt_len]; exact HN.out)
        rw [cnt_len, ← HN.out] at h
        exact h
      have HPC := hid (pfit_can h3 (cnt' k) l)
      have HPL : Hid ((pfit p (cnt' k) l).length ≤ k) := by have := pfit_le p (cnt' k) l; rw [cnt_len] at this; exact this
      have HE0 : Hid (atz p l r = evz p (pfit p (cnt' k) l) r) := by unfold Hid atz; rw [← HN.out]
      generalize pfit p (cnt' k) l = g at *
      clear hI hlx
      go_wp2_with fail
      refine HFI.out.mono ?_
      rintro e w2 ⟨a', c', rfl, hrow, hb2⟩
      have HB2 : Hid (Below w.heap.size w w2) := HB.out.trans (hb2.mono HB.out.size)
      have HEV := hid (reval_any p c' (· < w2.heap.size) a' g r w2 h3 hm (by have := HPL.out; omega) (fits_of_can hm HPC.out) hr1 hr2 (hrow.p (fun _ h => h)))
      clear hrow hb2 HFI
      go_wp2_with fail
      refine HEV.out.mono ?_
      rintro e w3 ⟨rfl, rfl⟩
      go_wp2_with fail
      go_ret
      exact ⟨by rw [HE0.out]; rfl, HB2.out⟩

end Go.Proofs.YtaapbopcfpihbabGreatDoor

namespace Go.Proofs.YtaapbopcfpihbabGreatDoor
open Go.RowKit

/-- is it hidden at t? -/
def hdl (p : Nat) (T x y line : List Int) (t : Nat) : Bool := decide (atz p line (t : Int) = exz p T (onl p x y (t : Int)))
end Go.Proofs.YtaapbopcfpihbabGreatDoor
