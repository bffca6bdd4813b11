/- What package attestref1 answers of polynomials: Degree, All, Trim, At, Plus, Scaled, Minus, Times, for every list. -/
import Derived.Test.YtidkhgplejglaacPolB
import Derived.Test.YtidkhgplejglaacOwns
namespace Go.Proofs.Ytidkhgplejglaac
open Go.RowKit

theorem heap_lt {w : World} {b : Nat} {v : Value} (hp : w.cell? ⟨b, 0, none⟩ = some v) : b < w.heap.size := by
  rcases Nat.lt_or_ge b w.heap.size with g | g
  · exact g
  · simp [World.cell?, Array.getElem?_eq_none g] at hp

set_option maxHeartbeats 1000000 in
theorem rall_any (p n cap : Nat) (a : Option Addr) (f : Nat → Int) (w : World) (h3 : 3 ≤ p) (hm : p ≤ 2147483647)
    (hn : n ≤ 17592186044416) (hfit : FitsF n f) (hrow : RowF (· < w.heap.size) w a n f) :
    Calls Try.prog 21 #[.int .i64 p, .slice a n cap] w fun e w' => ∃ a' c', e = .returned (.slice a' n c') ∧ Lst w'.heap.size w' a' c' (ls (fun j => f j % (p : Int)) n) ∧ Below w.heap.size w w' := by
  obtain ⟨i0, hi, hz0, hz1, hz2⟩ := info_parts Try.infoInt
  have HF := hid hfit
  have HR := hid hrow
  clear hfit hrow
  go_enter Try.func21, Try.ntmps21
  go_wp2_with fail
  go_loopw [5, 6] (fun v iv wr => ∃ k : Nat, k ≤ n ∧ iv = .int .i64 k ∧ wr.ownsRow w.heap.size 3 1 v (ls (fun j => f j % (p : Int)) k).length ((ls (fun j => f j % (p : Int)) k).map (Value.int .i64)) ∧ Below w.heap.size w wr)
    (fun _ iv _ => n - (intOf iv).toNat)
  case atStart => exact ⟨0, Nat.zero_le _, rfl, World.ownsRow_nil _ _ _ _, Below.refl _ _⟩
  case round =>
    obtain ⟨k, hk, rfl, hown, hbel⟩ := hrel
    have hsz := hbel.size
    by_cases hlt : k < n
    · have hlt2 : (k : Int) < (n : Int) := by omega
      obtain ⟨bl, ol, rfl, hbl, hcl⟩ := HR.out k hlt
      have hcl2 := (hbel.cell (p := ⟨bl, ol + k, none⟩) hbl).trans hcl
      obtain ⟨hx1, hx2⟩ := HF.out k hlt
      have HLS := hid (ls_succ (fun j => f j % (p : Int)) k)
      have HLL := hid (ls_len (fun j => f j % (p : Int)) k)
      generalize f k = x at *
      clear hcl
      go_wp2_with fail
      refine (rof_any p x _ h3 hm hx1 hx2).mono ?_
      rintro e w1 ⟨rfl, rfl⟩
      generalize ls (fun j => f j % (p : Int)) k = lk at *
      go_wp2_with (at_builtin; refine wpList_append_own _ rfl _ _ 22 rfl w.heap.size 3 i0 (.int .i64 0) 1 8 Try.underlying22 hi hz0 hz1 hz2 rfl (by decide) _ _ _ rfl (hown.alloc _) ⟨w1.heap.size, 0, none⟩ 1 1 [.int .i64 (x % (p : Int))] rfl rfl ?c1 ?c2 ?c3 ?c4 ?c5 ?_)
      case c1 =>
        intro j u hj
        match j, hj with
        | 0, hj => simp at hj; subst hj; simp [Addr.add]
      case c2 => intro u hu; simp at hu; subst hu; rfl
      case c3 => have := HLL.out; unfold maxLen; omega
      case c4 => have := HLL.out; omega
      case c5 => simp; omega
      intro v' w2 hown2 hgrow _
      have hown3 := owns_succ hown2
      have HB : Hid (Below w.heap.size w w2) := (hbel.alloc hsz _).grown hgrow (by simp; omega) (fun k hk => (hown.lt k hk).1)
      have HO := hid hown3
      clear hown2 hown3 hgrow hown hbel
      go_wp2_with fail
      go_roundw
      case rel => exact ⟨k + 1, by omega, by go_num, by rw [HLS.out]; exact HO.out, HB.out⟩
      case measure => simp [intOf]; omega
    · have hlt2 : ¬ (k : Int) < (n : Int) := by omega
      obtain rfl : k = n := by omega
      obtain ⟨a', c', rfl, hl⟩ := lst_of_owns hown
      have HL := hid hl
      have HLL := hid (ls_len (fun j => f j % (p : Int)) k)
      clear hown hl
      go_wp2_with fail
      go_ret
      exact ⟨a', c', ret_slice HLL.out, HL.out, hbel⟩

theorem rat_any (cap i : Nat) (P : Nat → Prop) (a : Option Addr) (zs : List Int) (w : World) (hrow : RowP P w a zs) :
    Calls Try.prog 16 #[.slice a zs.length cap, .int .i64 i] w fun e w' => e = .returned (.int .i64 (zat zs i)) ∧ w' = w := by
  by_cases hlt : i < zs.length
  · obtain ⟨bl, ol, rfl, _, hcl⟩ := hrow i hlt
    have hlt2 : (i : Int) < (zs.length : Int) := by omega
    have hlt0 : ¬ (i : Int) < 0 := by omega
    clear hrow
    generalize zat zs i = x at *
    go_enter Try.func16, Try.ntmps16
    go_wp2_with fail
    go_ret
    exact ⟨rfl, rfl⟩
  · have hz : Hid (zat zs i = 0) := by unfold Hid zat; simp [show zs.length ≤ i from by omega]
    have hlt2 : ¬ (i : Int) < (zs.length : Int) := by omega
    have hlt0 : ¬ (i : Int) < 0 := by omega
    clear hrow
    go_enter Try.func16, Try.ntmps16
    go_wp2_with fail
    go_ret
    exact ⟨ret_int hz.out.symm, rfl⟩

theorem padd_ls {p : Nat} (h3 : 3 ≤ p) (xs ys : List Int) : Pol.trim p (ls (fun j => (zat xs j + zat ys j) % (p : Int)) (mxn xs.length ys.length)) = Pol.padd p xs ys := by
  refine Pol.mk_congr (by omega) (Pol.cf_behind p _) (Pol.padd_b p xs ys) (fun j => ?_)
  by_cases hj : j < mxn xs.length ys.length
  · rw [show Pol.cf (ls (fun j => (zat xs j + zat ys j) % (p : Int)) (mxn xs.length ys.length)) j = zat (ls (fun j => (zat xs j + zat ys j) % (p : Int)) (mxn xs.length ys.length)) j from rfl, ls_at _ _ _ hj]
    exact Pol.emod_dvd p _
  · have h : max xs.length ys.length ≤ j := by unfold mxn at hj; omega
    rw [Pol.cf_ge (by rw [ls_len]; omega)]
    simp only [Pol.add]
    rw [Pol.cf_ge (by omega), Pol.cf_ge (by omega)]
    simp

end Go.Proofs.Ytidkhgplejglaac
