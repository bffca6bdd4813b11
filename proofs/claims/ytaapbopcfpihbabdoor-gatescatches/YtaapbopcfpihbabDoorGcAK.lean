/- Plain facts on Part: what the reference reckons, gate by gate, is ptz. Plain facts on Part: with no variables fixed it is what the layer's values extend to; what a variable more makes of it. Plain facts on what is told of a layer: Part in one variable has degree 2, a table on a line as many as it has variables. -/
import Derived.Test.YtaapbopcfpihbabDoorGcAJ
namespace Go.Proofs.YtaapbopcfpihbabDoor
open Go.RowKit

theorem prz_split (f : Nat → Int) (a b : Nat) : Sum.prz f (a + b) = Sum.prz f a * Sum.prz (fun j => f (a + j)) b := by
  induction b with
  | zero => simp [Sum.prz]
  | succ b ih => rw [← Nat.add_assoc, Sum.prz, Sum.prz, ih, Int.mul_assoc]
theorem jnz_congr {p : Nat} {kind x y x' y' : Int} (hx : (p : Int) ∣ x - x') (hy : (p : Int) ∣ y - y') : jnz p kind x y = jnz p kind x' y' := by
  unfold jnz
  split
  · exact emod_of_dvd (Sum.dvd_add_sub hx hy)
  · exact emod_of_dvd (Sum.dvd_mul_sub hx hy)
/-- two numbers' bits, one behind the other -/
def abz (n A B k : Nat) : Int := if k < n then bitz n A k else bitz n B (k - n)
/-- a variable's factor -/
def gfac (n A B : Nat) (xs : List Int) (k : Nat) : Int := if abz n A B k = 0 then 1 - zat xs k else zat xs k
theorem prz_gfac {n A B : Nat} {xs : List Int} (h : xs.length ≤ 2 * n) : Sum.prz (gfac n A B xs) xs.length = Sum.wgt (zat xs) (min xs.length n) (A / 2 ^ (n - min xs.length n)) * Sum.wgt (fun j => zat xs (min xs.length n + j)) (xs.length - min xs.length n) (B / 2 ^ (n - (xs.length - min xs.length n))) := by
  obtain ⟨m, hm⟩ : ∃ m, m = min xs.length n := ⟨_, rfl⟩
  rw [← hm]
  have e : xs.length = m + (xs.length - m) := by omega
  rw [wgt_cut _ (show m ≤ n by omega), wgt_cut _ (show xs.length - m ≤ n by omega)]
  conv => lhs; rw [e]
  rw [prz_split]
  congr 1
  · refine Sum.prz_same (fun k hk => ?_)
    unfold gfac abz
    rw [if_pos (show k < n by omega)]
  · refine Sum.prz_same (fun k hk => ?_)
    have hmn : m = n := by omega
    unfold gfac abz
    rw [if_neg (show ¬ m + k < n by omega), show m + k - n = k from by omega]
/-- the points that a gate's sum is looked at: elements, then bits -/
def xpt (n A B : Nat) (xs : List Int) (k : Nat) : Int := if k < xs.length then zat xs k else abz n A B k
theorem x_dvd {p n A B : Nat} {t xs : List Int} (ht : t.length = 2 ^ n) : (p : Int) ∣ Sum.ext (zat t) (xpt n A B xs) n % (p : Int) - zat (fxs p t (zat xs) (min xs.length n)) (A % 2 ^ (n - min xs.length n)) := by
  have h := cut_fxs (p := p) (n := n) (k := min xs.length n) (A := A) (t := t) (fs := zat xs) (at' := xpt n A B xs) ht (by omega) (fun j hj => by unfold xpt; rw [if_pos (by omega)]) (fun j h1 h2 => by unfold xpt abz; rw [if_neg (by omega), if_pos h2])
  have h2 := Int.dvd_add (Pol.emod_dvd p (Sum.ext (zat t) (xpt n A B xs) n)) h
  generalize Sum.ext (zat t) (xpt n A B xs) n % (p : Int) = a at *
  generalize Sum.ext (zat t) (xpt n A B xs) n = b at *
  generalize zat (fxs p t (zat xs) (min xs.length n)) (A % 2 ^ (n - min xs.length n)) = c at *
  rwa [show a - b + (b - c) = a - c from by omega] at h2
theorem y_dvd {p n A B : Nat} {t xs : List Int} (ht : t.length = 2 ^ n) (hl : xs.length ≤ 2 * n) : (p : Int) ∣ Sum.ext (zat t) (fun j => xpt n A B xs (n + j)) n % (p : Int) - zat (fxs p t (fun j => zat xs (min xs.length n + j)) (xs.length - min xs.length n)) (B % 2 ^ (n - (xs.length - min xs.length n))) := by
  have h := cut_fxs (p := p) (n := n) (k := xs.length - min xs.length n) (A := B) (t := t) (fs := fun j => zat xs (min xs.length n + j)) (at' := fun j => xpt n A B xs (n + j)) ht (by omega) (fun j hj => by
    have e : min xs.length n = n := by omega
    show xpt n A B xs (n + j) = _
    unfold xpt
    rw [if_pos (by omega), e]) (fun j h1 h2 => by
    show xpt n A B xs (n + j) = _
    unfold xpt abz
    rw [if_neg (by omega), if_neg (by omega), Nat.add_sub_cancel_left])
  have h2 := Int.dvd_add (Pol.emod_dvd p (Sum.ext (zat t) (fun j => xpt n A B xs (n + j)) n)) h
  generalize Sum.ext (zat t) (fun j => xpt n A B xs (n + j)) n % (p : Int) = a at *
  generalize Sum.ext (zat t) (fun j => xpt n A B xs (n + j)) n = b at *
  generalize zat (fxs p t (fun j => zat xs (min xs.length n + j)) (xs.length - min xs.length n)) (B % 2 ^ (n - (xs.length - min xs.length n))) = c at *
  rwa [show a - b + (b - c) = a - c from by omega] at h2
end Go.Proofs.YtaapbopcfpihbabDoor

namespace Go.Proofs.YtaapbopcfpihbabDoor
open Go.RowKit

theorem ptt_eq {p n i : Nat} {gs : List GatZ} {t z xs : List Int} (ht : t.length = 2 ^ n) (hl : xs.length ≤ 2 * n) : ptt p gs t n z xs i = Sum.wgt (zat z) z.length i * Sum.prz (gfac n (gat gs i).a.toNat (gat gs i).b.toNat xs) xs.length * jnz p (gat gs i).kind (Sum.ext (zat t) (xpt n (gat gs i).a.toNat (gat gs i).b.toNat xs) n) (Sum.ext (zat t) (fun j => xpt n (gat gs i).a.toNat (gat gs i).b.toNat xs (n + j)) n) := by
  have e1 : ∀ x y : Int, jnz p (gat gs i).kind (x % (p : Int)) (y % (p : Int)) = jnz p (gat gs i).kind x y := fun x y => jnz_congr (Pol.emod_dvd p x) (Pol.emod_dvd p y)
  rw [← e1, jnz_congr (x_dvd (A := (gat gs i).a.toNat) (B := (gat gs i).b.toNat) (xs := xs) ht) (y_dvd (A := (gat gs i).a.toNat) (B := (gat gs i).b.toNat) (xs := xs) ht hl), prz_gfac hl]
  unfold ptt
  rw [← Int.mul_assoc]
theorem zat_app_lo {xs : List Int} {b : Int} {j : Nat} (h : j < xs.length) : zat (xs ++ [b]) j = zat xs j := by simp [zat, List.getElem?_append_left h]
theorem zat_app_at (xs : List Int) (b : Int) : zat (xs ++ [b]) xs.length = b := by simp [zat]
theorem abz_01 (n A B k : Nat) : abz n A B k = 0 ∨ abz n A B k = 1 := by
  unfold abz bitz
  split <;> omega
/-- a variable more that is the gate's own bit makes no difference -/
theorem ptt_own {p n i : Nat} {gs : List GatZ} {t z xs : List Int} {b : Int} (ht : t.length = 2 ^ n) (hl : xs.length + 1 ≤ 2 * n) (hb : abz n (gat gs i).a.toNat (gat gs i).b.toNat xs.length = b) : ptt p gs t n z (xs ++ [b]) i = ptt p gs t n z xs i := by
  rw [ptt_eq ht (by rw [List.length_append]; exact hl), ptt_eq ht (by omega)]
  have e0 : (xs ++ [b]).length = xs.length + 1 := by simp
  rw [e0, Sum.prz]
  have e1 : Sum.prz (gfac n (gat gs i).a.toNat (gat gs i).b.toNat (xs ++ [b])) xs.length = Sum.prz (gfac n (gat gs i).a.toNat (gat gs i).b.toNat xs) xs.length := Sum.prz_same (fun k hk => by unfold gfac; rw [zat_app_lo hk])
  have e2 : gfac n (gat gs i).a.toNat (gat gs i).b.toNat (xs ++ [b]) xs.length = 1 := by
    unfold gfac
    rw [zat_app_at, hb]
    rcases abz_01 n (gat gs i).a.toNat (gat gs i).b.toNat xs.length with h | h
    · rw [hb] at h; rw [h]; rfl
    · rw [hb] at h; rw [h]; rfl
  have e3 : ∀ j, xpt n (gat gs i).a.toNat (gat gs i).b.toNat (xs ++ [b]) j = xpt n (gat gs i).a.toNat (gat gs i).b.toNat xs j := fun j => by
    unfold xpt
    rw [e0]
    by_cases h : j < xs.length
    · rw [if_pos h, if_pos (by omega), zat_app_lo h]
    · rw [if_neg h]
      by_cases h2 : j = xs.length
      · subst h2
        rw [if_pos (by omega), zat_app_at, hb]
      · rw [if_neg (by omega)]
  rw [e1, e2, Int.mul_one]
  rw [Sum.ext_same (u := zat t) (bt := xpt n (gat gs i).a.toNat (gat gs i).b.toNat xs) (fun _ _ => rfl) (fun j _ => e3 j), Sum.ext_same (u := zat t) (bt := fun j => xpt n (gat gs i).a.toNat (gat gs i).b.toNat xs (n + j)) (fun _ _ => rfl) (fun j _ => e3 (n + j))]
/-- a variable more that is the other bit leaves nothing -/
theorem ptt_other {p n i : Nat} {gs : List GatZ} {t z xs : List Int} {b : Int} (ht : t.length = 2 ^ n) (hl : xs.length + 1 ≤ 2 * n) (hb : abz n (gat gs i).a.toNat (gat gs i).b.toNat xs.length = 1 - b) : ptt p gs t n z (xs ++ [b]) i = 0 := by
  rw [ptt_eq ht (by rw [List.length_append]; exact hl)]
  have e0 : (xs ++ [b]).length = xs.length + 1 := by simp
  rw [e0, Sum.prz]
  have e2 : gfac n (gat gs i).a.toNat (gat gs i).b.toNat (xs ++ [b]) xs.length = 0 := by
    unfold gfac
    rw [zat_app_at, hb]
    rcases abz_01 n (gat gs i).a.toNat (gat gs i).b.toNat xs.length with h | h
    · rw [hb] at h; rw [if_pos h]; exact h
    · rw [hb] at h; rw [if_neg (by omega)]; omega
  rw [e2, Int.mul_zero, Int.mul_zero, Int.zero_mul]
theorem ptt_two {p n i : Nat} {gs : List GatZ} {t z xs : List Int} (ht : t.length = 2 ^ n) (hl : xs.length + 1 ≤ 2 * n) : ptt p gs t n z xs i = ptt p gs t n z (xs ++ [0]) i + ptt p gs t n z (xs ++ [1]) i := by
  rcases abz_01 n (gat gs i).a.toNat (gat gs i).b.toNat xs.length with h | h
  · rw [ptt_own ht hl h, ptt_other (b := 1) ht hl (by rw [h]; rfl), Int.add_zero]
  · rw [ptt_own (b := 1) ht hl h, ptt_other (b := 0) ht hl (by rw [h]; rfl), Int.zero_add]
theorem sm_plus (f g : Nat → Int) : ∀ n, Dom.sm (fun i => f i + g i) n = Dom.sm f n + Dom.sm g n
  | 0 => rfl
  | n + 1 => by rw [Dom.sm, Dom.sm, Dom.sm, sm_plus f g n]; omega
/-- each variable that is fixed makes of a layer's sum what its two sides make -/
theorem ptz_two {p n : Nat} {gs : List GatZ} {t z xs : List Int} (ht : t.length = 2 ^ n) (hl : xs.length + 1 ≤ 2 * n) : ptz p gs t n z xs = (ptz p gs t n z (xs ++ [0]) + ptz p gs t n z (xs ++ [1])) % (p : Int) := by
  unfold ptz
  rw [← Int.add_emod, ← sm_plus]
  congr 1
  exact Dom.sm_same (fun i _ => ptt_two ht hl)
/-- a layer is the sum over its wires -/
theorem ptz_nil {p n : Nat} {gs : List GatZ} {t z : List Int} (hg : gs.length = 2 ^ z.length) (ho : ∀ k, k < gs.length → (gat gs k).a.toNat < 2 ^ n ∧ (gat gs k).b.toNat < 2 ^ n) : ptz p gs t n z [] = Sum.ext (zat (gvl p t gs)) (zat z) z.length % (p : Int) := by
  unfold ptz Sum.ext
  rw [← hg]
  congr 1
  refine Dom.sm_same (fun i hi => ?_)
  unfold ptt gvl
  obtain ⟨h1, h2⟩ := ho i hi
  have w0 : ∀ (f : Nat → Int) j, Sum.wgt f 0 j = 1 := fun f j => by simp [Sum.wgt, Sum.prz]
  simp only [List.length_nil, Nat.zero_min, Nat.sub_zero, w0, Int.mul_one, fxs]
  rw [Nat.mod_eq_of_lt h1, Nat.mod_eq_of_lt h2, ls_at _ _ _ hi, Int.mul_comm]

end Go.Proofs.YtaapbopcfpihbabDoor

namespace Go.Proofs.YtaapbopcfpihbabDoor
open Go.RowKit

theorem ps_scale (c : Int) (f : Pol.S) (x : Int) : ∀ n, Pol.ps (fun j => c * f j) x n = c * Pol.ps f x n
  | 0 => by simp [Pol.ps]
  | n + 1 => by rw [Pol.ps, Pol.ps, ps_scale c f x n, Int.mul_add, Int.mul_assoc]
/-- sums of products of straight ones, each so many times -/
def cstrs (c : Nat → Int) (a b : Nat → Nat → Int) (d h : Nat) : Pol.S := fun j => Dom.sm (fun i => c i * Sum.strs (fun k => a k i) (fun k => b k i) d j) h
theorem ps_cstrs (c : Nat → Int) (a b : Nat → Nat → Int) (d : Nat) (x : Int) : ∀ h, Pol.ps (cstrs c a b d h) x (d + 1) = Dom.sm (fun i => c i * Sum.prz (fun k => a k i * (1 - x) + b k i * x) d) h
  | 0 => by
    show Pol.ps Pol.zero x (d + 1) = 0
    exact Dom.ps_zero _ _
  | h + 1 => by
    have e : cstrs c a b d (h + 1) = Pol.add (cstrs c a b d h) (fun j => c h * Sum.strs (fun k => a k h) (fun k => b k h) d j) := funext fun j => rfl
    rw [e, Dom.ps_add, ps_cstrs c a b d x h, ps_scale, Sum.ps_strs]
    rfl
/-- what a table extends to is straight in its first variable -/
theorem ext_first (t at' : Nat → Int) (m : Nat) (r : Int) : Sum.ext (fun i => t i * (1 - r) + t (i + 2 ^ m) * r) at' m = Sum.ext t at' m * (1 - r) + Sum.ext (fun i => t (i + 2 ^ m)) at' m * r := by
  unfold Sum.ext
  rw [Int.mul_comm _ (1 - r), Int.mul_comm _ r, ← Dom.sm_mul, ← Dom.sm_mul, ← Dom.sm_add]
  exact Dom.sm_same (fun i _ => by grind)
/-- what a gate makes, not reduced -/
def jnx (kind x y : Int) : Int := if kind = 0 then x + y else x * y
theorem jnx_dvd (p : Nat) (kind x y : Int) : (p : Int) ∣ jnz p kind x y - jnx kind x y := by
  unfold jnz jnx
  split <;> exact Pol.emod_dvd p _
theorem jnx_str (kind x0 x1 y r : Int) : jnx kind (x0 * (1 - r) + x1 * r) y = jnx kind x0 y * (1 - r) + jnx kind x1 y * r := by
  unfold jnx
  split <;> grind
/-- a gate's part with the first variable anything -/
theorem ptt_one {p m i : Nat} {gs : List GatZ} {t z : List Int} (ht : t.length = 2 ^ (m + 1)) : ∃ a b : Nat → Int, ∀ r : Int, (p : Int) ∣ ptt p gs t (m + 1) z [r] i - Sum.wgt (zat z) z.length i * Sum.prz (fun k => a k * (1 - r) + b k * r) 2 := by
  obtain ⟨A, hA⟩ : ∃ A, A = (gat gs i).a.toNat := ⟨_, rfl⟩
  obtain ⟨B, hB⟩ : ∃ B, B = (gat gs i).b.toNat := ⟨_, rfl⟩
  obtain ⟨Y, hY⟩ : ∃ Y, Y = Sum.ext (zat t) (fun j => abz (m + 1) A B (m + 1 + j)) (m + 1) := ⟨_, rfl⟩
  obtain ⟨X0, hX0⟩ : ∃ X, X = Sum.ext (zat t) (fun j => abz (m + 1) A B (j + 1)) m := ⟨_, rfl⟩
  obtain ⟨X1, hX1⟩ : ∃ X, X = Sum.ext (fun i => zat t (i + 2 ^ m)) (fun j => abz (m + 1) A B (j + 1)) m := ⟨_, rfl⟩
  refine ⟨fun k => if k = 0 then (if abz (m + 1) A B 0 = 0 then 1 else 0) else jnx (gat gs i).kind X0 Y, fun k => if k = 0 then (if abz (m + 1) A B 0 = 0 then 0 else 1) else jnx (gat gs i).kind X1 Y, fun r => ?_⟩
  rw [ptt_eq ht (by simp; omega), ← hA, ← hB]
  have ey : Sum.ext (zat t) (fun j => xpt (m + 1) A B [r] (m + 1 + j)) (m + 1) = Y := by
    rw [hY]
    refine Sum.ext_same (fun _ _ => rfl) (fun j _ => ?_)
    unfold xpt
    rw [if_neg (by simp)]
  have ex : Sum.ext (zat t) (xpt (m + 1) A B [r]) (m + 1) = X0 * (1 - r) + X1 * r := by
    rw [Sum.ext_succ, hX0, hX1, ← ext_first]
    refine Sum.ext_same (fun j _ => ?_) (fun j _ => ?_)
    · have e0 : xpt (m + 1) A B [r] 0 = r := by simp [xpt, zat]
      rw [e0]
    · show xpt (m + 1) A B [r] (j + 1) = _
      unfold xpt
      rw [if_neg (by simp)]
  rw [ey, ex]
  have eg : Sum.prz (gfac (m + 1) A B [r]) [r].length = (if abz (m + 1) A B 0 = 0 then 1 else 0) * (1 - r) + (if abz (m + 1) A B 0 = 0 then 0 else 1) * r := by
    have e0 : zat [r] 0 = r := by simp [zat]
    simp only [List.length_singleton, Sum.prz, gfac, e0]
    split <;> simp
  rw [eg]
  have ep : ∀ u v : Int, Sum.prz (fun k => (if k = 0 then (if abz (m + 1) A B 0 = 0 then (1 : Int) else 0) else jnx (gat gs i).kind X0 Y) * (1 - r) + (if k = 0 then (if abz (m + 1) A B 0 = 0 then (0 : Int) else 1) else jnx (gat gs i).kind X1 Y) * r) 2 = ((if abz (m + 1) A B 0 = 0 then 1 else 0) * (1 - r) + (if abz (m + 1) A B 0 = 0 then 0 else 1) * r) * (jnx (gat gs i).kind X0 Y * (1 - r) + jnx (gat gs i).kind X1 Y * r) := fun _ _ => by
    simp [Sum.prz]
  rw [ep 0 0, ← jnx_str, Int.mul_assoc]
  have h1 := jnx_dvd p (gat gs i).kind (X0 * (1 - r) + X1 * r) Y
  rw [← Int.mul_sub, ← Int.mul_sub]
  exact Int.dvd_mul_of_dvd_right (Int.dvd_mul_of_dvd_right h1)
/-- Part with the first variable anything: of degree 2 -/
theorem ptz_one {p m : Nat} {gs : List GatZ} {t z : List Int} (ht : t.length = 2 ^ (m + 1)) : ∃ f : Pol.S, ∀ r : Int, (p : Int) ∣ ptz p gs t (m + 1) z [r] - Pol.ps f r 3 := by
  have h : ∀ i, ∃ ab : (Nat → Int) × (Nat → Int), ∀ r : Int, (p : Int) ∣ ptt p gs t (m + 1) z [r] i - Sum.wgt (zat z) z.length i * Sum.prz (fun k => ab.1 k * (1 - r) + ab.2 k * r) 2 := fun i => by
    obtain ⟨a, b, h⟩ := ptt_one (p := p) (i := i) (gs := gs) (z := z) ht
    exact ⟨(a, b), h⟩
  obtain ⟨F, hF⟩ := Classical.axiomOfChoice h
  refine ⟨cstrs (fun i => Sum.wgt (zat z) z.length i) (fun k i => (F i).1 k) (fun k i => (F i).2 k) 2 gs.length, fun r => ?_⟩
  rw [ps_cstrs]
  have h1 := Dom.sm_congr (p := p) (n := gs.length) (fun i _ => hF i r)
  have h2 := Int.dvd_add (Pol.emod_dvd p (Dom.sm (ptt p gs t (m + 1) z [r]) gs.length)) h1
  unfold ptz
  generalize Dom.sm (ptt p gs t (m + 1) z [r]) gs.length % (p : Int) = a at *
  generalize Dom.sm (ptt p gs t (m + 1) z [r]) gs.length = b at *
  rwa [show ∀ c : Int, a - b + (b - c) = a - c from fun c => by omega] at h2
/-- three elements do not hide a wrong claim -/
theorem part_catch {p m : Nat} {gs : List GatZ} {t z : List Int} (hp : Num.Prime p) (ht : t.length = 2 ^ (m + 1)) (f : Pol.S) (s : Nat → Int) (hu : ∀ i j, i < j → j < 3 → ¬ (p : Int) ∣ s j - s i) (hs : ∀ i, i < 3 → (p : Int) ∣ Pol.ps f (s i) 3 - ptz p gs t (m + 1) z [s i]) : (p : Int) ∣ Pol.ps f 0 3 + Pol.ps f 1 3 - ptz p gs t (m + 1) z [] := by
  obtain ⟨g, hg⟩ := ptz_one (p := p) (gs := gs) (z := z) ht
  have ha := Sum.agree hp 3 f g s hu (fun i hi => by
    have := Int.dvd_add (hs i hi) (hg (s i))
    rwa [show ∀ a b c : Int, a - b + (b - c) = a - c from fun a b c => by omega] at this)
  have e : ∀ r : Int, (p : Int) ∣ Pol.ps f r 3 - ptz p gs t (m + 1) z [r] := fun r => by
    have := Int.dvd_sub (ha r) (hg r)
    have k : (p : Int) ∣ -(ptz p gs t (m + 1) z [r] - Pol.ps g r 3) := Int.dvd_neg.2 (hg r)
    have := Int.dvd_add (ha r) k
    rwa [show ∀ a b c : Int, a - b + -(c - b) = a - c from fun a b c => by omega] at this
  rw [ptz_two (xs := []) ht (by simp; omega)]
  have h01 := Int.dvd_add (e 0) (e 1)
  have h2 := Pol.emod_dvd p (ptz p gs t (m + 1) z ([] ++ [0]) + ptz p gs t (m + 1) z ([] ++ [1]))
  simp only [List.nil_append] at *
  have h3 := Int.dvd_sub h01 h2
  generalize (ptz p gs t (m + 1) z [0] + ptz p gs t (m + 1) z [1]) % (p : Int) = M at *
  rwa [show ∀ a b c d : Int, a - b + (c - d) - (M - (b + d)) = a + c - M from fun a b c d => by omega] at h3
/-- a table on a line: of as many as there are variables -/
theorem ext_line (T x y : Nat → Int) (v : Nat) : ∃ f : Pol.S, ∀ t : Int, Sum.ext T (fun k => x k + t * (y k - x k)) v = Pol.ps f t (v + 1) := by
  refine ⟨cstrs T (fun k i => if i / 2 ^ (v - 1 - k) % 2 = 0 then 1 - x k else x k) (fun k i => if i / 2 ^ (v - 1 - k) % 2 = 0 then 1 - y k else y k) v (2 ^ v), fun t => ?_⟩
  rw [ps_cstrs]
  unfold Sum.ext
  refine Dom.sm_same (fun i _ => ?_)
  rw [← prz_wgf]
  congr 1
  refine Sum.prz_same (fun k _ => ?_)
  unfold wgf
  split <;> grind
/-- what agrees with a table on a line at one element more than it has variables agrees with it everywhere -/
theorem line_catch {p v : Nat} (hp : Num.Prime p) (T x y : Nat → Int) (f : Pol.S) (s : Nat → Int) (hu : ∀ i j, i < j → j < v + 1 → ¬ (p : Int) ∣ s j - s i) (hs : ∀ i, i < v + 1 → (p : Int) ∣ Pol.ps f (s i) (v + 1) - Sum.ext T (fun k => x k + s i * (y k - x k)) v) (t : Int) : (p : Int) ∣ Pol.ps f t (v + 1) - Sum.ext T (fun k => x k + t * (y k - x k)) v := by
  obtain ⟨g, hg⟩ := ext_line T x y v
  rw [hg]
  exact Sum.agree hp (v + 1) f g s hu (fun i hi => by rw [← hg]; exact hs i hi) t

/-- how many below k are so -/
def hcn (P : Nat → Bool) : Nat → Nat
  | 0 => 0
  | k + 1 => hcn P k + (if P k then 1 else 0)
theorem hcn_le (P : Nat → Bool) : ∀ k, hcn P k ≤ k
  | 0 => Nat.le_refl _
  | k + 1 => by have := hcn_le P k; rw [hcn]; split <;> omega
theorem hcn_many (P : Nat → Bool) : ∀ k d, d ≤ hcn P k → ∃ s : Nat → Nat, (∀ i, i < d → P (s i) = true ∧ s i < k) ∧ ∀ i j, i < j → j < d → s i < s j
  | 0, d, h => ⟨fun i => i, fun i hi => by simp [hcn] at h; omega, fun i j h1 h2 => by simp [hcn] at h; omega⟩
  | k + 1, d, h => by
    by_cases e : P k = true
    · rw [hcn, if_pos e] at h
      obtain ⟨s, h1, h2⟩ := hcn_many P k (d - 1) (by omega)
      refine ⟨fun i => if i = d - 1 then k else s i, fun i hi => ?_, fun i j hij hj => ?_⟩
      · by_cases g : i = d - 1
        · simp only [if_pos g]; exact ⟨e, by omega⟩
        · simp only [if_neg g]; have := h1 i (by omega); exact ⟨this.1, by omega⟩
      · by_cases g : j = d - 1
        · simp only [if_pos g, if_neg (show ¬ i = d - 1 by omega)]
          exact (h1 i (by omega)).2
        · simp only [if_neg g, if_neg (show ¬ i = d - 1 by omega)]
          exact h2 i j hij (by omega)
    · rw [hcn, if_neg e] at h
      obtain ⟨s, h1, h2⟩ := hcn_many P k d (by omega)
      exact ⟨s, fun i hi => ⟨(h1 i hi).1, by have := (h1 i hi).2; omega⟩, h2⟩
theorem hcn_all (P : Nat → Bool) : ∀ k, (∀ i, i < k → P i = true) → hcn P k = k
  | 0, _ => rfl
  | k + 1, h => by rw [hcn, hcn_all P k (fun i hi => h i (by omega)), if_pos (h k (by omega))]

end Go.Proofs.YtaapbopcfpihbabDoor
