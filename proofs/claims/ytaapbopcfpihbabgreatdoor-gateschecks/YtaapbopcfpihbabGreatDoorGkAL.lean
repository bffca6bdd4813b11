/- Plain facts on circuits: a table with its first variables fixed, bits, weights. Plain facts on Part: what the reference reckons, gate by gate, is ptz. Plain facts on Part: with no variables fixed it is what the layer's values extend to; what a variable more makes of it. Plain facts on what is told of a layer: Part in one variable has degree 2, a table on a line as many as it has variables. -/
import Derived.Test.YtaapbopcfpihbabGreatDoorGkAK
import Derived.Test.YtaapbopcfpihbabGreatDoorGkAI
namespace Go.Proofs.YtaapbopcfpihbabGreatDoor
open Go.RowKit

/-- a table the first variables of which are some elements -/
def fxs (p : Nat) (t : List Int) (fs : Nat → Int) : Nat → List Int
  | 0 => t
  | k + 1 => fixl p (fxs p t fs k) (fs k)
theorem fxs_len {p n : Nat} {t : List Int} (fs : Nat → Int) (h : t.length = 2 ^ n) : ∀ k, k ≤ n → (fxs p t fs k).length = 2 ^ (n - k)
  | 0, _ => h
  | k + 1, hk => by
    rw [fxs, fixl_len, fxs_len fs h k (by omega), show n - k = n - (k + 1) + 1 from by omega, Nat.pow_succ]
    omega
theorem fxs_fits {p : Nat} (h3 : 3 ≤ p) (hm : p ≤ 2147483647) {t : List Int} (fs : Nat → Int) (h : Fits t) : ∀ k, Fits (fxs p t fs k)
  | 0 => h
  | _ + 1 => fixl_fits h3 hm _ _
/-- what a table extends to is what is left of it -/
theorem ext_fxs {p n : Nat} {t : List Int} (at' : Nat → Int) (h : t.length = 2 ^ n) : ∀ k, k ≤ n → (p : Int) ∣ Sum.ext (zat t) at' n - Sum.ext (zat (fxs p t at' k)) (fun j => at' (k + j)) (n - k)
  | 0, _ => by
    have : Sum.ext (zat (fxs p t at' 0)) (fun j => at' (0 + j)) (n - 0) = Sum.ext (zat t) at' n := Sum.ext_same (fun i _ => rfl) (fun j _ => by rw [Nat.zero_add])
    rw [this, Int.sub_self]
    exact Int.dvd_zero _
  | i + 1, hi => by
    have ih := ext_fxs (p := p) at' h i (by omega)
    obtain ⟨m, hm⟩ : ∃ m, n - (i + 1) = m := ⟨_, rfl⟩
    rw [show n - i = m + 1 from by omega, Sum.ext_succ] at ih
    rw [hm]
    have hl : (fxs p t at' i).length = 2 ^ (m + 1) := by rw [fxs_len at' h i (by omega)]; congr 1; omega
    have hh : 2 ^ (m + 1) / 2 = 2 ^ m := by rw [Nat.pow_succ]; omega
    have e : (p : Int) ∣ Sum.ext (fun x => zat (fxs p t at' i) x * (1 - at' (i + 0)) + zat (fxs p t at' i) (x + 2 ^ m) * at' (i + 0)) (fun j => at' (i + (j + 1))) m - Sum.ext (zat (fxs p t at' (i + 1))) (fun j => at' (i + 1 + j)) m := by
      refine Sum.ext_congr (fun x hx => ?_) (fun j _ => ?_)
      · rw [fxs, fixl_at (by rw [hl, hh]; exact hx), hl, hh, Nat.add_zero]
        have := Int.dvd_neg.2 (Pol.emod_dvd p (zat (fxs p t at' i) x * (1 - at' i) + zat (fxs p t at' i) (x + 2 ^ m) * at' i))
        rwa [Int.neg_sub] at this
      · rw [show i + (j + 1) = i + 1 + j from by omega, Int.sub_self]
        exact Int.dvd_zero _
    have := Int.dvd_add ih e
    rwa [show ∀ a b c : Int, a - b + (b - c) = a - c from fun a b c => by omega] at this

/-- a gate's part in a layer's sum with the first variables fixed -/
def ptt (p : Nat) (gs : List GatZ) (below : List Int) (n : Nat) (z xs : List Int) (i : Nat) : Int :=
  Sum.wgt (zat z) z.length i * Sum.wgt (zat xs) (min xs.length n) ((gat gs i).a.toNat / 2 ^ (n - min xs.length n)) * Sum.wgt (fun j => zat xs (min xs.length n + j)) (xs.length - min xs.length n) ((gat gs i).b.toNat / 2 ^ (n - (xs.length - min xs.length n))) *
    jnz p (gat gs i).kind (zat (fxs p below (zat xs) (min xs.length n)) ((gat gs i).a.toNat % 2 ^ (n - min xs.length n))) (zat (fxs p below (fun j => zat xs (min xs.length n + j)) (xs.length - min xs.length n)) ((gat gs i).b.toNat % 2 ^ (n - (xs.length - min xs.length n))))
/-- a layer's sum -/
def ptz (p : Nat) (gs : List GatZ) (below : List Int) (n : Nat) (z xs : List Int) : Int := Dom.sm (ptt p gs below n z xs) gs.length % (p : Int)

end Go.Proofs.YtaapbopcfpihbabGreatDoor

namespace Go.Proofs.YtaapbopcfpihbabGreatDoor
open Go.RowKit

end Go.Proofs.YtaapbopcfpihbabGreatDoor

namespace Go.Proofs.YtaapbopcfpihbabGreatDoor
open Go.RowKit

end Go.Proofs.YtaapbopcfpihbabGreatDoor

namespace Go.Proofs.YtaapbopcfpihbabGreatDoor
open Go.RowKit

end Go.Proofs.YtaapbopcfpihbabGreatDoor
