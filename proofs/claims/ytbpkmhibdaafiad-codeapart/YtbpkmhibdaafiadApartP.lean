/- Plain facts: two unlike polynomials of low degree have values that differ nearly everywhere. -/
import Derived.Test.YtbpkmhibdaafiadCodC
namespace Go.Proofs.Ytbpkmhibdaafiad
open Go.RowKit

theorem far_dvd {p : Nat} {zs : List Int} {k : Nat} (h : tpn p (zat zs) zs.length ≤ k) (j : Nat) (hj : k ≤ j) : (p : Int) ∣ Pol.cf zs j := by
  by_cases e : j < zs.length
  · have := Pol.tp_behind p (zat zs) zs.length j (Nat.le_trans h hj) e
    rw [zat_cf] at this
    exact Pol.emod_zero_iff.1 this
  · rw [Pol.cf_ge (by omega)]; exact Int.dvd_zero _

theorem evz_low {p : Nat} (zs : List Int) (x : Int) {k : Nat} (h : tpn p (zat zs) zs.length ≤ k) : (p : Int) ∣ evz p zs x - Pol.ps (Pol.cf zs) x k := by
  have h1 := evz_ps (p := p) zs x (max zs.length k) (by omega)
  have h2 := Pol.ps_more (p := p) (f := Pol.cf zs) x k (max zs.length k) (by omega) (fun j hj => far_dvd h j hj)
  have := Int.dvd_add h1 h2
  rwa [show ∀ a b c : Int, a - b + (b - c) = a - c from fun a b c => by omega] at this

theorem dist_ls (p : Nat) (f g : Nat → Int) (n : Nat) : dist p (ls f n) (ls g n) = Cod.cnt (fun j => !(f j % (p : Int) == g j % (p : Int))) n := by
  unfold dist
  rw [ls_len, ls_len, Nat.max_self]
  refine Cod.cnt_congr (fun j hj => ?_)
  unfold dq
  rw [ls_len, ls_len, ls_at _ _ _ hj, ls_at _ _ _ hj, decide_eq_true hj]
  rfl

theorem psub_nil_eqp {p : Nat} (xs ys : List Int) (h : (Pol.psub p xs ys).length = 0) : Pol.Eqp p (Pol.cf xs) (Pol.cf ys) := fun j => by
  have h1 := Pol.psub_eqp p xs ys j
  rw [List.length_eq_zero_iff.1 h, Pol.cf_nil] at h1
  simp only [Pol.zero, Pol.sub] at h1
  have := Int.dvd_neg.2 h1
  rwa [show -(0 - (Pol.cf xs j - Pol.cf ys j)) = Pol.cf xs j - Pol.cf ys j from by omega] at this

theorem same_dist {p n : Nat} (h3 : 3 ≤ p) (r s : Int) (xs ys : List Int) (h : (Pol.psub p xs ys).length = 0) : dist p (ls (fun j => evz p xs (Dom.pt p s r j)) n) (ls (fun j => evz p ys (Dom.pt p s r j)) n) = 0 := by
  rw [dist_ls, Cod.cnt_zero]
  intro j hj
  have e : evz p xs (Dom.pt p s r j) = evz p ys (Dom.pt p s r j) := by
    rw [← evz_trim (by omega) xs, ← evz_trim (by omega) ys, Pol.trim_congr (by omega) (psub_nil_eqp xs ys h)]
  rw [e]; simp

theorem apart_dist {p n k : Nat} (hp : Num.Prime p) (h3 : 3 ≤ p) {r s : Int} (ho : Dom.Ord p r n) (hs : ¬ (p : Int) ∣ s) (xs ys : List Int) (hx : tpn p (zat xs) xs.length ≤ k) (hy : tpn p (zat ys) ys.length ≤ k) (h : 0 < (Pol.psub p xs ys).length) :
    n < dist p (ls (fun j => evz p xs (Dom.pt p s r j)) n) (ls (fun j => evz p ys (Dom.pt p s r j)) n) + k := by
  rw [dist_ls]
  refine Cod.apart hp (Cod.pt_unlike hp ho hs) (Pol.cf xs) (Pol.cf ys) k _ (fun j hj hD => ?_) ?_
  · simp at hD
    have e : evz p xs (Dom.pt p s r j) = evz p ys (Dom.pt p s r j) := by
      have b1 := evz_bounds p xs (Dom.pt p s r j) h3
      have b2 := evz_bounds p ys (Dom.pt p s r j) h3
      rwa [Int.emod_eq_of_lt b1.1 b1.2, Int.emod_eq_of_lt b2.1 b2.2] at hD
    have e1 := evz_low (p := p) xs (Dom.pt p s r j) hx
    have e2 := evz_low (p := p) ys (Dom.pt p s r j) hy
    have := Int.dvd_sub e2 e1
    rw [e] at this
    rwa [show ∀ a b c : Int, a - b - (a - c) = c - b from fun a b c => by omega] at this
  · have hc : Pol.Can p (Pol.psub p xs ys) := Pol.mk_can (by omega) _ _
    have hl := hc.last_nd h
    have h1 := Pol.psub_eqp p xs ys ((Pol.psub p xs ys).length - 1)
    simp only [Pol.sub] at h1
    have hnd : ¬ (p : Int) ∣ Pol.cf xs ((Pol.psub p xs ys).length - 1) - Pol.cf ys ((Pol.psub p xs ys).length - 1) := fun hd => hl (by
      have := Int.dvd_add h1 hd
      rwa [show ∀ a b : Int, a - b + b = a from fun a b => by omega] at this)
    refine ⟨_, Nat.lt_of_not_le (fun hle => hnd ?_), hnd⟩
    exact Int.dvd_sub (far_dvd hx _ hle) (far_dvd hy _ hle)

end Go.Proofs.Ytbpkmhibdaafiad
