/- Plain facts on circuits: a table with its first variables fixed, bits, weights. Plain facts on Part: what the reference reckons, gate by gate, is ptz. Plain facts on Part: with no variables fixed it is what the layer's values extend to; what a variable more makes of it. Plain facts on what is told of a layer: Part in one variable has degree 2, a table on a line as many as it has variables. -/
import Derived.Test.YtpgnabmkfkcogaaGreatDoorGqAK
import Derived.Test.YtpgnabmkfkcogaaGreatDoorGqAI
namespace Go.Proofs.YtpgnabmkfkcogaaGreatDoor
open Go.RowKit

/-- a table the first variables of which are some elements -/
def fxs (p : Nat) (t : List Int) (fs : Nat → Int) : Nat → List Int
  | 0 => t
  | k + 1 => fixl p (fxs p t fs k) (fs k)
theorem fxs_len {p n : Nat} {t : List Int} (fs : Nat → Int) (h : t.length = 2 ^ n) : ∀ k, k ≤ n → (fxs p t fs k).length = 2 ^ (n - k)
  | 0, _ => h
  | k + 1, hk => by
    rw [fxs, fixl_len, fxs_len fs h k (by omega), show n - k = n - (k + 1) + 1 from by omega, Nat.pow_succ]
    omega
theorem fxs_fits {p : Nat} (h3 : 3 ≤ p) (hm : p ≤ 2147483647) {t : List Int} (fs : Nat → Int) (h : Fits t) : ∀ k, Fits (fxs p t fs k)
  | 0 => h
  | _ + 1 => fixl_fits h3 hm _ _
theorem fxs_same {p : Nat} {t : List Int} {fs gs : Nat → Int} : ∀ k, (∀ j, j < k → fs j = gs j) → fxs p t fs k = fxs p t gs k
  | 0, _ => rfl
  | k + 1, h => by rw [fxs, fxs, fxs_same k (fun j hj => h j (by omega)), h k (by omega)]
/-- what a table extends to is what is left of it -/
theorem ext_fxs {p n : Nat} {t : List Int} (at' : Nat → Int) (h : t.length = 2 ^ n) : ∀ k, k ≤ n → (p : Int) ∣ Sum.ext (zat t) at' n - Sum.ext (zat (fxs p t at' k)) (fun j => at' (k + j)) (n - k)
  | 0, _ => by
    have : Sum.ext (zat (fxs p t at' 0)) (fun j => at' (0 + j)) (n - 0) = Sum.ext (zat t) at' n := Sum.ext_same (fun i _ => rfl) (fun j _ => by rw [Nat.zero_add])
    rw [this, Int.sub_self]
    exact Int.dvd_zero _
  | i + 1, hi => by
    have ih := ext_fxs (p := p) at' h i (by omega)
    obtain ⟨m, hm⟩ : ∃ m, n - (i + 1) = m := ⟨_, rfl⟩
    rw [show n - i = m + 1 from by omega, Sum.ext_succ] at ih
    rw [hm]
    have hl : (fxs p t at' i).length = 2 ^ (m + 1) := by rw [fxs_len at' h i (by omega)]; congr 1; omega
    have hh : 2 ^ (m + 1) / 2 = 2 ^ m := by rw [Nat.pow_succ]; omega
    have e : (p : Int) ∣ Sum.ext (fun x => zat (fxs p t at' i) x * (1 - at' (i + 0)) + zat (fxs p t at' i) (x + 2 ^ m) * at' (i + 0)) (fun j => at' (i + (j + 1))) m - Sum.ext (zat (fxs p t at' (i + 1))) (fun j => at' (i + 1 + j)) m := by
      refine Sum.ext_congr (fun x hx => ?_) (fun j _ => ?_)
      · rw [fxs, fixl_at (by rw [hl, hh]; exact hx), hl, hh, Nat.add_zero]
        have := Int.dvd_neg.2 (Pol.emod_dvd p (zat (fxs p t at' i) x * (1 - at' i) + zat (fxs p t at' i) (x + 2 ^ m) * at' i))
        rwa [Int.neg_sub] at this
      · rw [show i + (j + 1) = i + 1 + j from by omega, Int.sub_self]
        exact Int.dvd_zero _
    have := Int.dvd_add ih e
    rwa [show ∀ a b c : Int, a - b + (b - c) = a - c from fun a b c => by omega] at this

/-- a number's bits, the greatest first -/
def bitz (n i k : Nat) : Int := ((i / 2 ^ (n - 1 - k) % 2 : Nat) : Int)
theorem bitz_cut {n k A j : Nat} (_hk : k ≤ n) (hj : j < n - k) : bitz n A (k + j) = bitz (n - k) (A % 2 ^ (n - k)) j := by
  unfold bitz
  have e : n - 1 - (k + j) = n - k - 1 - j := by omega
  rw [e]
  obtain ⟨m, hm⟩ : ∃ m, m = n - k := ⟨_, rfl⟩
  rw [← hm] at hj ⊢
  obtain ⟨d, hd⟩ : ∃ d, d = m - 1 - j := ⟨_, rfl⟩
  rw [← hd]
  have h2 : 2 ^ m = 2 ^ d * 2 ^ (m - d) := by rw [← Nat.pow_add]; congr 1; omega
  have h3 : A % 2 ^ m / 2 ^ d = A / 2 ^ d % 2 ^ (m - d) := by
    rw [h2, Nat.mod_mul_right_div_self]
  rw [h3]
  have h4 : 2 ^ (m - d) = 2 * 2 ^ (m - d - 1) := by rw [show m - d = m - d - 1 + 1 from by omega, Nat.pow_succ, Nat.mul_comm]; rfl
  rw [h4, Nat.mod_mul_right_mod]
theorem ext_bits (t : Nat → Int) (v j : Nat) (hj : j < 2 ^ v) : Sum.ext t (bitz v j) v = t j := by
  induction v generalizing t j with
  | zero =>
    rw [Sum.ext_zero]
    congr 1
    simp at hj
    omega
  | succ v ih =>
    rw [Sum.ext_succ]
    have hb : ∀ k, k < v → bitz (v + 1) j (k + 1) = bitz v (j % 2 ^ v) k := fun k hk => by
      have := bitz_cut (n := v + 1) (k := 1) (A := j) (j := k) (by omega) (by omega)
      rw [Nat.add_comm 1 k] at this
      exact this
    by_cases h : j < 2 ^ v
    · have h0 : bitz (v + 1) j 0 = 0 := by
        unfold bitz
        rw [show v + 1 - 1 - 0 = v from by omega, Nat.div_eq_of_lt h]
        rfl
      rw [Sum.ext_same (u := t) (bt := bitz v j) (fun i _ => by rw [h0]; simp) (fun k hk => by rw [hb k hk, Nat.mod_eq_of_lt h])]
      exact ih t j h
    · have h2 : j < 2 ^ v + 2 ^ v := by rw [Nat.pow_succ] at hj; omega
      have hd : j / 2 ^ v = 1 := by
        rw [Nat.div_eq_iff (Nat.two_pow_pos v)]
        omega
      have h0 : bitz (v + 1) j 0 = 1 := by
        unfold bitz
        rw [show v + 1 - 1 - 0 = v from by omega, hd]
        rfl
      have hm : j % 2 ^ v = j - 2 ^ v := by rw [Nat.mod_eq_sub_mod (by omega), Nat.mod_eq_of_lt (by omega)]
      rw [Sum.ext_same (u := fun i => t (i + 2 ^ v)) (bt := bitz v (j - 2 ^ v)) (fun i _ => by rw [h0]; simp) (fun k hk => by rw [hb k hk, hm])]
      rw [ih (fun i => t (i + 2 ^ v)) (j - 2 ^ v) (by omega)]
      congr 1
      omega
/-- a table at first elements, then a number's last bits -/
theorem cut_fxs {p n k A : Nat} {t : List Int} {fs at' : Nat → Int} (h : t.length = 2 ^ n) (hk : k ≤ n) (h1 : ∀ j, j < k → at' j = fs j) (h2 : ∀ j, k ≤ j → j < n → at' j = bitz n A j) : (p : Int) ∣ Sum.ext (zat t) at' n - zat (fxs p t fs k) (A % 2 ^ (n - k)) := by
  have := ext_fxs (p := p) at' h k hk
  rw [fxs_same k h1, Sum.ext_same (u := zat (fxs p t fs k)) (bt := bitz (n - k) (A % 2 ^ (n - k))) (fun i _ => rfl) (fun j hj => by rw [h2 (k + j) (by omega) (by omega), bitz_cut hk hj])] at this
  rw [ext_bits _ _ _ (Nat.mod_lt _ (Nat.two_pow_pos _))] at this
  exact this
/-- a place's first bits, each by its factor -/
theorem wgt_cut {n k A : Nat} (fs : Nat → Int) (hk : k ≤ n) : Sum.wgt fs k (A / 2 ^ (n - k)) = Sum.prz (fun j => if bitz n A j = 0 then 1 - fs j else fs j) k := by
  rw [← prz_wgf]
  refine Sum.prz_same (fun j hj => ?_)
  unfold wgf bitz
  rw [Nat.div_div_eq_div_mul, ← Nat.pow_add, show n - k + (k - 1 - j) = n - 1 - j from by omega]
  generalize A / 2 ^ (n - 1 - j) % 2 = X
  by_cases e : X = 0
  · rw [if_pos e, if_pos (by omega)]
  · rw [if_neg e, if_neg (by omega)]

/-- a gate's part in a layer's sum with the first variables fixed -/
def ptt (p : Nat) (gs : List GatZ) (below : List Int) (n : Nat) (z xs : List Int) (i : Nat) : Int :=
  Sum.wgt (zat z) z.length i * Sum.wgt (zat xs) (min xs.length n) ((gat gs i).a.toNat / 2 ^ (n - min xs.length n)) * Sum.wgt (fun j => zat xs (min xs.length n + j)) (xs.length - min xs.length n) ((gat gs i).b.toNat / 2 ^ (n - (xs.length - min xs.length n))) *
    jnz p (gat gs i).kind (zat (fxs p below (zat xs) (min xs.length n)) ((gat gs i).a.toNat % 2 ^ (n - min xs.length n))) (zat (fxs p below (fun j => zat xs (min xs.length n + j)) (xs.length - min xs.length n)) ((gat gs i).b.toNat % 2 ^ (n - (xs.length - min xs.length n))))
/-- a layer's sum -/
def ptz (p : Nat) (gs : List GatZ) (below : List Int) (n : Nat) (z xs : List Int) : Int := Dom.sm (ptt p gs below n z xs) gs.length % (p : Int)

end Go.Proofs.YtpgnabmkfkcogaaGreatDoor

namespace Go.Proofs.YtpgnabmkfkcogaaGreatDoor
open Go.RowKit

theorem prz_split (f : Nat → Int) (a b : Nat) : Sum.prz f (a + b) = Sum.prz f a * Sum.prz (fun j => f (a + j)) b := by
  induction b with
  | zero => simp [Sum.prz]
  | succ b ih => rw [← Nat.add_assoc, Sum.prz, Sum.prz, ih, Int.mul_assoc]
theorem jnz_congr {p : Nat} {kind x y x' y' : Int} (hx : (p : Int) ∣ x - x') (hy : (p : Int) ∣ y - y') : jnz p kind x y = jnz p kind x' y' := by
  unfold jnz
  split
  · exact emod_of_dvd (Sum.dvd_add_sub hx hy)
  · exact emod_of_dvd (Sum.dvd_mul_sub hx hy)
/-- two numbers' bits, one behind the other -/
def abz (n A B k : Nat) : Int := if k < n then bitz n A k else bitz n B (k - n)
/-- a variable's factor -/
def gfac (n A B : Nat) (xs : List Int) (k : Nat) : Int := if abz n A B k = 0 then 1 - zat xs k else zat xs k
theorem prz_gfac {n A B : Nat} {xs : List Int} (h : xs.length ≤ 2 * n) : Sum.prz (gfac n A B xs) xs.length = Sum.wgt (zat xs) (min xs.length n) (A / 2 ^ (n - min xs.length n)) * Sum.wgt (fun j => zat xs (min xs.length n + j)) (xs.length - min xs.length n) (B / 2 ^ (n - (xs.length - min xs.length n))) := by
  obtain ⟨m, hm⟩ : ∃ m, m = min xs.length n := ⟨_, rfl⟩
  rw [← hm]
  have e : xs.length = m + (xs.length - m) := by omega
  rw [wgt_cut _ (show m ≤ n by omega), wgt_cut _ (show xs.length - m ≤ n by omega)]
  conv => lhs; rw [e]
  rw [prz_split]
  congr 1
  · refine Sum.prz_same (fun k hk => ?_)
    unfold gfac abz
    rw [if_pos (show k < n by omega)]
  · refine Sum.prz_same (fun k hk => ?_)
    have hmn : m = n := by omega
    unfold gfac abz
    rw [if_neg (show ¬ m + k < n by omega), show m + k - n = k from by omega]
/-- the points that a gate's sum is looked at: elements, then bits -/
def xpt (n A B : Nat) (xs : List Int) (k : Nat) : Int := if k < xs.length then zat xs k else abz n A B k
theorem x_dvd {p n A B : Nat} {t xs : List Int} (ht : t.length = 2 ^ n) : (p : Int) ∣ Sum.ext (zat t) (xpt n A B xs) n % (p : Int) - zat (fxs p t (zat xs) (min xs.length n)) (A % 2 ^ (n - min xs.length n)) := by
  have h := cut_fxs (p := p) (n := n) (k := min xs.length n) (A := A) (t := t) (fs := zat xs) (at' := xpt n A B xs) ht (by omega) (fun j hj => by unfold xpt; rw [if_pos (by omega)]) (fun j h1 h2 => by unfold xpt abz; rw [if_neg (by omega), if_pos h2])
  have h2 := Int.dvd_add (Pol.emod_dvd p (Sum.ext (zat t) (xpt n A B xs) n)) h
  generalize Sum.ext (zat t) (xpt n A B xs) n % (p : Int) = a at *
  generalize Sum.ext (zat t) (xpt n A B xs) n = b at *
  generalize zat (fxs p t (zat xs) (min xs.length n)) (A % 2 ^ (n - min xs.length n)) = c at *
  rwa [show a - b + (b - c) = a - c from by omega] at h2
theorem y_dvd {p n A B : Nat} {t xs : List Int} (ht : t.length = 2 ^ n) (hl : xs.length ≤ 2 * n) : (p : Int) ∣ Sum.ext (zat t) (fun j => xpt n A B xs (n + j)) n % (p : Int) - zat (fxs p t (fun j => zat xs (min xs.length n + j)) (xs.length - min xs.length n)) (B % 2 ^ (n - (xs.length - min xs.length n))) := by
  have h := cut_fxs (p := p) (n := n) (k := xs.length - min xs.length n) (A := B) (t := t) (fs := fun j => zat xs (min xs.length n + j)) (at' := fun j => xpt n A B xs (n + j)) ht (by omega) (fun j hj => by
    have e : min xs.length n = n := by omega
    show xpt n A B xs (n + j) = _
    unfold xpt
    rw [if_pos (by omega), e]) (fun j h1 h2 => by
    show xpt n A B xs (n + j) = _
    unfold xpt abz
    rw [if_neg (by omega), if_neg (by omega), Nat.add_sub_cancel_left])
  have h2 := Int.dvd_add (Pol.emod_dvd p (Sum.ext (zat t) (fun j => xpt n A B xs (n + j)) n)) h
  generalize Sum.ext (zat t) (fun j => xpt n A B xs (n + j)) n % (p : Int) = a at *
  generalize Sum.ext (zat t) (fun j => xpt n A B xs (n + j)) n = b at *
  generalize zat (fxs p t (fun j => zat xs (min xs.length n + j)) (xs.length - min xs.length n)) (B % 2 ^ (n - (xs.length - min xs.length n))) = c at *
  rwa [show a - b + (b - c) = a - c from by omega] at h2
end Go.Proofs.YtpgnabmkfkcogaaGreatDoor

namespace Go.Proofs.YtpgnabmkfkcogaaGreatDoor
open Go.RowKit

theorem ptt_eq {p n i : Nat} {gs : List GatZ} {t z xs : List Int} (ht : t.length = 2 ^ n) (hl : xs.length ≤ 2 * n) : ptt p gs t n z xs i = Sum.wgt (zat z) z.length i * Sum.prz (gfac n (gat gs i).a.toNat (gat gs i).b.toNat xs) xs.length * jnz p (gat gs i).kind (Sum.ext (zat t) (xpt n (gat gs i).a.toNat (gat gs i).b.toNat xs) n) (Sum.ext (zat t) (fun j => xpt n (gat gs i).a.toNat (gat gs i).b.toNat xs (n + j)) n) := by
  have e1 : ∀ x y : Int, jnz p (gat gs i).kind (x % (p : Int)) (y % (p : Int)) = jnz p (gat gs i).kind x y := fun x y => jnz_congr (Pol.emod_dvd p x) (Pol.emod_dvd p y)
  rw [← e1, jnz_congr (x_dvd (A := (gat gs i).a.toNat) (B := (gat gs i).b.toNat) (xs := xs) ht) (y_dvd (A := (gat gs i).a.toNat) (B := (gat gs i).b.toNat) (xs := xs) ht hl), prz_gfac hl]
  unfold ptt
  rw [← Int.mul_assoc]
theorem zat_app_lo {xs : List Int} {b : Int} {j : Nat} (h : j < xs.length) : zat (xs ++ [b]) j = zat xs j := by simp [zat, List.getElem?_append_left h]
theorem zat_app_at (xs : List Int) (b : Int) : zat (xs ++ [b]) xs.length = b := by simp [zat]
theorem abz_01 (n A B k : Nat) : abz n A B k = 0 ∨ abz n A B k = 1 := by
  unfold abz bitz
  split <;> omega
/-- a variable more that is the gate's own bit makes no difference -/
theorem ptt_own {p n i : Nat} {gs : List GatZ} {t z xs : List Int} {b : Int} (ht : t.length = 2 ^ n) (hl : xs.length + 1 ≤ 2 * n) (hb : abz n (gat gs i).a.toNat (gat gs i).b.toNat xs.length = b) : ptt p gs t n z (xs ++ [b]) i = ptt p gs t n z xs i := by
  rw [ptt_eq ht (by rw [List.length_append]; exact hl), ptt_eq ht (by omega)]
  have e0 : (xs ++ [b]).length = xs.length + 1 := by simp
  rw [e0, Sum.prz]
  have e1 : Sum.prz (gfac n (gat gs i).a.toNat (gat gs i).b.toNat (xs ++ [b])) xs.length = Sum.prz (gfac n (gat gs i).a.toNat (gat gs i).b.toNat xs) xs.length := Sum.prz_same (fun k hk => by unfold gfac; rw [zat_app_lo hk])
  have e2 : gfac n (gat gs i).a.toNat (gat gs i).b.toNat (xs ++ [b]) xs.length = 1 := by
    unfold gfac
    rw [zat_app_at, hb]
    rcases abz_01 n (gat gs i).a.toNat (gat gs i).b.toNat xs.length with h | h
    · rw [hb] at h; rw [h]; rfl
    · rw [hb] at h; rw [h]; rfl
  have e3 : ∀ j, xpt n (gat gs i).a.toNat (gat gs i).b.toNat (xs ++ [b]) j = xpt n (gat gs i).a.toNat (gat gs i).b.toNat xs j := fun j => by
    unfold xpt
    rw [e0]
    by_cases h : j < xs.length
    · rw [if_pos h, if_pos (by omega), zat_app_lo h]
    · rw [if_neg h]
      by_cases h2 : j = xs.length
      · subst h2
        rw [if_pos (by omega), zat_app_at, hb]
      · rw [if_neg (by omega)]
  rw [e1, e2, Int.mul_one]
  rw [Sum.ext_same (u := zat t) (bt := xpt n (gat gs i).a.toNat (gat gs i).b.toNat xs) (fun _ _ => rfl) (fun j _ => e3 j), Sum.ext_same (u := zat t) (bt := fun j => xpt n (gat gs i).a.toNat (gat gs i).b.toNat xs (n + j)) (fun _ _ => rfl) (fun j _ => e3 (n + j))]
/-- a variable more that is the other bit leaves nothing -/
theorem ptt_other {p n i : Nat} {gs : List GatZ} {t z xs : List Int} {b : Int} (ht : t.length = 2 ^ n) (hl : xs.length + 1 ≤ 2 * n) (hb : abz n (gat gs i).a.toNat (gat gs i).b.toNat xs.length = 1 - b) : ptt p gs t n z (xs ++ [b]) i = 0 := by
  rw [ptt_eq ht (by rw [List.length_append]; exact hl)]
  have e0 : (xs ++ [b]).length = xs.length + 1 := by simp
  rw [e0, Sum.prz]
  have e2 : gfac n (gat gs i).a.toNat (gat gs i).b.toNat (xs ++ [b]) xs.length = 0 := by
    unfold gfac
    rw [zat_app_at, hb]
    rcases abz_01 n (gat gs i).a.toNat (gat gs i).b.toNat xs.length with h | h
    · rw [hb] at h; rw [if_pos h]; exact h
    · rw [hb] at h; rw [if_neg (by omega)]; omega
  rw [e2, Int.mul_zero, Int.mul_zero, Int.zero_mul]
theorem ptt_two {p n i : Nat} {gs : List GatZ} {t z xs : List Int} (ht : t.length = 2 ^ n) (hl : xs.length + 1 ≤ 2 * n) : ptt p gs t n z xs i = ptt p gs t n z (xs ++ [0]) i + ptt p gs t n z (xs ++ [1]) i := by
  rcases abz_01 n (gat gs i).a.toNat (gat gs i).b.toNat xs.length with h | h
  · rw [ptt_own ht hl h, ptt_other (b := 1) ht hl (by rw [h]; rfl), Int.add_zero]
  · rw [ptt_own (b := 1) ht hl h, ptt_other (b := 0) ht hl (by rw [h]; rfl), Int.zero_add]
theorem sm_plus (f g : Nat → Int) : ∀ n, Dom.sm (fun i => f i + g i) n = Dom.sm f n + Dom.sm g n
  | 0 => rfl
  | n + 1 => by rw [Dom.sm, Dom.sm, Dom.sm, sm_plus f g n]; omega
/-- each variable that is fixed makes of a layer's sum what its two sides make -/
theorem ptz_two {p n : Nat} {gs : List GatZ} {t z xs : List Int} (ht : t.length = 2 ^ n) (hl : xs.length + 1 ≤ 2 * n) : ptz p gs t n z xs = (ptz p gs t n z (xs ++ [0]) + ptz p gs t n z (xs ++ [1])) % (p : Int) := by
  unfold ptz
  rw [← Int.add_emod, ← sm_plus]
  congr 1
  exact Dom.sm_same (fun i _ => ptt_two ht hl)
/-- a layer is the sum over its wires -/
theorem ptz_nil {p n : Nat} {gs : List GatZ} {t z : List Int} (hg : gs.length = 2 ^ z.length) (ho : ∀ k, k < gs.length → (gat gs k).a.toNat < 2 ^ n ∧ (gat gs k).b.toNat < 2 ^ n) : ptz p gs t n z [] = Sum.ext (zat (gvl p t gs)) (zat z) z.length % (p : Int) := by
  unfold ptz Sum.ext
  rw [← hg]
  congr 1
  refine Dom.sm_same (fun i hi => ?_)
  unfold ptt gvl
  obtain ⟨h1, h2⟩ := ho i hi
  have w0 : ∀ (f : Nat → Int) j, Sum.wgt f 0 j = 1 := fun f j => by simp [Sum.wgt, Sum.prz]
  simp only [List.length_nil, Nat.zero_min, Nat.sub_zero, w0, Int.mul_one, fxs]
  rw [Nat.mod_eq_of_lt h1, Nat.mod_eq_of_lt h2, ls_at _ _ _ hi, Int.mul_comm]

end Go.Proofs.YtpgnabmkfkcogaaGreatDoor

namespace Go.Proofs.YtpgnabmkfkcogaaGreatDoor
open Go.RowKit

theorem ps_scale (c : Int) (f : Pol.S) (x : Int) : ∀ n, Pol.ps (fun j => c * f j) x n = c * Pol.ps f x n
  | 0 => by simp [Pol.ps]
  | n + 1 => by rw [Pol.ps, Pol.ps, ps_scale c f x n, Int.mul_add, Int.mul_assoc]
/-- sums of products of straight ones, each so many times -/
def cstrs (c : Nat → Int) (a b : Nat → Nat → Int) (d h : Nat) : Pol.S := fun j => Dom.sm (fun i => c i * Sum.strs (fun k => a k i) (fun k => b k i) d j) h
theorem ps_cstrs (c : Nat → Int) (a b : Nat → Nat → Int) (d : Nat) (x : Int) : ∀ h, Pol.ps (cstrs c a b d h) x (d + 1) = Dom.sm (fun i => c i * Sum.prz (fun k => a k i * (1 - x) + b k i * x) d) h
  | 0 => by
    show Pol.ps Pol.zero x (d + 1) = 0
    exact Dom.ps_zero _ _
  | h + 1 => by
    have e : cstrs c a b d (h + 1) = Pol.add (cstrs c a b d h) (fun j => c h * Sum.strs (fun k => a k h) (fun k => b k h) d j) := funext fun j => rfl
    rw [e, Dom.ps_add, ps_cstrs c a b d x h, ps_scale, Sum.ps_strs]
    rfl
/-- what a gate makes, not reduced -/
def jnx (kind x y : Int) : Int := if kind = 0 then x + y else x * y
theorem jnx_dvd (p : Nat) (kind x y : Int) : (p : Int) ∣ jnz p kind x y - jnx kind x y := by
  unfold jnz jnx
  split <;> exact Pol.emod_dvd p _
theorem jnx_str (kind x0 x1 y r : Int) : jnx kind (x0 * (1 - r) + x1 * r) y = jnx kind x0 y * (1 - r) + jnx kind x1 y * r := by
  unfold jnx
  split <;> grind
/-- a table on a line: of as many as there are variables -/
theorem ext_line (T x y : Nat → Int) (v : Nat) : ∃ f : Pol.S, ∀ t : Int, Sum.ext T (fun k => x k + t * (y k - x k)) v = Pol.ps f t (v + 1) := by
  refine ⟨cstrs T (fun k i => if i / 2 ^ (v - 1 - k) % 2 = 0 then 1 - x k else x k) (fun k i => if i / 2 ^ (v - 1 - k) % 2 = 0 then 1 - y k else y k) v (2 ^ v), fun t => ?_⟩
  rw [ps_cstrs]
  unfold Sum.ext
  refine Dom.sm_same (fun i _ => ?_)
  rw [← prz_wgf]
  congr 1
  refine Sum.prz_same (fun k _ => ?_)
  unfold wgf
  split <;> grind
/-- what agrees with a table on a line at one element more than it has variables agrees with it everywhere -/
theorem line_catch {p v : Nat} (hp : Num.Prime p) (T x y : Nat → Int) (f : Pol.S) (s : Nat → Int) (hu : ∀ i j, i < j → j < v + 1 → ¬ (p : Int) ∣ s j - s i) (hs : ∀ i, i < v + 1 → (p : Int) ∣ Pol.ps f (s i) (v + 1) - Sum.ext T (fun k => x k + s i * (y k - x k)) v) (t : Int) : (p : Int) ∣ Pol.ps f t (v + 1) - Sum.ext T (fun k => x k + t * (y k - x k)) v := by
  obtain ⟨g, hg⟩ := ext_line T x y v
  rw [hg]
  exact Sum.agree hp (v + 1) f g s hu (fun i hi => by rw [← hg]; exact hs i hi) t

end Go.Proofs.YtpgnabmkfkcogaaGreatDoor
