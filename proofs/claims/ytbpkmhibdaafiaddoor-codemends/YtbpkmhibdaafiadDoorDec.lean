/- Plain facts on mending a word, of no program: a polynomial that takes what is wrong to a low degree is 0 at every place that is wrong. -/
import Derived.Test.YtbpkmhibdaafiadDoorCod
namespace Go.Proofs.YtbpkmhibdaafiadDoor.Cod
open Pol Dom

theorem ml_low {p : Nat} (f g : S) (k : Nat) (hf : ∀ j, j ≤ k → (p : Int) ∣ f j) : (p : Int) ∣ ml k f g := by
  induction k generalizing f with
  | zero => exact Int.dvd_mul_of_dvd_left (hf 0 (Nat.le_refl _))
  | succ k ih => exact Int.dvd_add (Int.dvd_mul_of_dvd_left (hf 0 (by omega))) (ih _ (fun j hj => hf (j + 1) (by omega)))

/-- the first places of a product come of the first places -/
theorem mul_low {p : Nat} (q f g : S) (n : Nat) (h : ∀ j, j < n → (p : Int) ∣ f j - g j) (j : Nat) (hj : j < n) : (p : Int) ∣ mul q f j - mul q g j := by
  have h1 : mul q f j - mul q g j = ml j (sub f g) q := by
    rw [ml_sub_left]
    simp only [mul]
    rw [ml_comm j q f, ml_comm j q g]
  rw [h1]
  exact ml_low (sub f g) q j (fun i hi => h i (by omega))

/-- what stands from the place n on is laid on the first n, times c -/
def wr (c : Int) (n : Nat) (F : S) : S := fun j => F j + c * F (n + j)

theorem ps_tail (F : S) (x : Int) (n m : Nat) : ps F x (n + m) = ps F x n + x ^ n * ps (fun j => F (n + j)) x m := by
  induction m with
  | zero => simp [ps]
  | succ m ih =>
    rw [← Nat.add_assoc]
    simp only [ps]
    rw [ih, Int.pow_add]
    grind

theorem ps_wr {p : Nat} (c x : Int) (n : Nat) (F : S) (h : (p : Int) ∣ x ^ n - c) : (p : Int) ∣ ps (wr c n F) x n - ps F x (n + n) := by
  have h1 : ps (wr c n F) x n = ps F x n + c * ps (fun j => F (n + j)) x n := by
    rw [show wr c n F = add F (sc c (fun j => F (n + j))) from rfl, ps_add, ps_sc]
  rw [h1, ps_tail]
  have := Int.dvd_mul_of_dvd_left (c := - ps (fun j => F (n + j)) x n) h
  rwa [show (x ^ n - c) * - ps (fun j => F (n + j)) x n = ps F x n + c * ps (fun j => F (n + j)) x n - (ps F x n + x ^ n * ps (fun j => F (n + j)) x n) from by grind] at this

theorem pt_pow {p n : Nat} {r s : Int} (h : Ord p r n) (j : Nat) : (p : Int) ∣ pt p s r j ^ n - s ^ n := by
  have h1 : (p : Int) ∣ pt p s r j ^ n - (s * r ^ j) ^ n := pow_congr (emod_dvd p (s * r ^ j)) n
  have h2 : (p : Int) ∣ (s * r ^ j) ^ n - s ^ n := by
    rw [Int.mul_pow]
    have := Int.dvd_mul_of_dvd_right (b := s ^ n) (h.pow_one j)
    rwa [show s ^ n * ((r ^ j) ^ n - 1) = s ^ n * (r ^ j) ^ n - s ^ n from by grind] at this
  have := Int.dvd_add h1 h2
  rwa [show pt p s r j ^ n - (s * r ^ j) ^ n + ((s * r ^ j) ^ n - s ^ n) = pt p s r j ^ n - s ^ n from by omega] at this

/-- where the last places of e times t are 0, and e is 0 at all points but few, e times t is 0 at all -/
theorem locate {p n : Nat} (hp : Num.Prime p) {r s : Int} (ho : Ord p r n) (hs : ¬ (p : Int) ∣ s) (e t : S) (sp : Nat) (hsp : sp ≤ n) (he : ∀ j, n ≤ j → e j = 0) (ht : ∀ j, sp < 2 * j → t j = 0)
    (hr : ∀ i, i < sp → sp ≤ 2 * i → (p : Int) ∣ mul t (fun j => e (n - sp + j)) i) (E : Nat → Bool) (hE : ∀ j, j < n → E j = false → (p : Int) ∣ ps e (pt p s r j) n) (hc : 2 * cnt E n ≤ sp) :
    ∀ j, j < n → (p : Int) ∣ ps e (pt p s r j) n * ps t (pt p s r j) n := by
  by_cases hn0 : n = 0
  · intro j hj; omega
  have ht' : ∀ j, n ≤ j → t j = 0 := fun j hj => ht j (by omega)
  have hF : ∀ x : Int, ps (mul t e) x (n + n) = ps t x n * ps e x n := fun x => ps_mul t e x n n ht' he
  -- what is laid together has its last places 0
  have hY : ∀ j, n - sp / 2 ≤ j → j < n → (p : Int) ∣ wr (s ^ n) n (mul t e) j := by
    intro j h1 h2
    have z1 : mul t e (n + j) = 0 := ml_zero_beyond t e (sp / 2 + 1) n (fun i hi => ht i (by omega)) he (n + j) (by omega)
    unfold wr
    rw [z1, Int.mul_zero, Int.add_zero]
    have hd : e = add (lo (n - sp) e) (sh (n - sp) (fun j => e (n - sp + j))) := by
      funext i
      simp only [add, lo, sh]
      by_cases g : i < n - sp
      · simp [g]
      · simp [g, show n - sp + (i - (n - sp)) = i from by omega]
    rw [show mul t e j = mul t (add (lo (n - sp) e) (sh (n - sp) (fun j => e (n - sp + j)))) j from by rw [← hd], mul_add]
    have z2 : mul t (lo (n - sp) e) j = 0 := ml_zero_beyond t (lo (n - sp) e) (sp / 2 + 1) (n - sp) (fun i hi => ht i (by omega)) (fun i hi => by simp only [lo]; rw [if_neg (by omega)]) j (by omega)
    have z3 : mul t (sh (n - sp) (fun j => e (n - sp + j))) j = mul t (fun j => e (n - sp + j)) (j - (n - sp)) := by
      rw [mul_comm, sh_mul, mul_comm]
      simp only [sh]
      rw [if_neg (by omega)]
    show (p : Int) ∣ mul t (lo (n - sp) e) j + mul t (sh (n - sp) (fun j => e (n - sp + j))) j
    rw [z2, z3, Int.zero_add]
    exact hr (j - (n - sp)) (by omega) (by omega)
  have hv : ∀ j, (p : Int) ∣ ps (wr (s ^ n) n (mul t e)) (pt p s r j) n - ps e (pt p s r j) n * ps t (pt p s r j) n := fun j => by
    have := ps_wr (s ^ n) (pt p s r j) n (mul t e) (pt_pow ho j)
    rwa [hF, Int.mul_comm] at this
  have hsh : ∀ x : Int, (p : Int) ∣ ps (wr (s ^ n) n (mul t e)) x n - ps (wr (s ^ n) n (mul t e)) x (n - sp / 2) := fun x => by
    have h1 := ps_congr (p := p) (f := wr (s ^ n) n (mul t e)) (g := lo (n - sp / 2) (wr (s ^ n) n (mul t e))) x n (fun j hj => by
      simp only [lo]
      by_cases g : j < n - sp / 2
      · rw [if_pos g, Int.sub_self]; exact Int.dvd_zero _
      · rw [if_neg g, Int.sub_zero]; exact hY j (by omega) hj)
    have h2 : ps (lo (n - sp / 2) (wr (s ^ n) n (mul t e))) x n = ps (lo (n - sp / 2) (wr (s ^ n) n (mul t e))) x (n - sp / 2) := ps_stay _ x _ _ (by omega) (fun j hj => by simp only [lo]; rw [if_neg (by omega)])
    have h3 : ps (lo (n - sp / 2) (wr (s ^ n) n (mul t e))) x (n - sp / 2) = ps (wr (s ^ n) n (mul t e)) x (n - sp / 2) := by
      rw [ps_sm, ps_sm]; exact sm_same (fun i hi => by simp only [lo]; rw [if_pos hi])
    rwa [h2, h3] at h1
  -- so it is 0
  have hz : ∀ j, j < n - sp / 2 → (p : Int) ∣ wr (s ^ n) n (mul t e) j := by
    refine zero_of_roots hp (n := n) (pt_unlike hp ho hs) _ (n - sp / 2) (fun j => !E j) (fun j hj hEj => ?_) ?_
    · have a1 := hE j hj (by simpa using hEj)
      have a2 := Int.dvd_mul_of_dvd_left (c := ps t (pt p s r j) n) a1
      have a3 := Int.dvd_add (hv j) a2
      have a4 := Int.dvd_sub a3 (hsh (pt p s r j))
      rwa [show ∀ a b c : Int, a - b + b - (a - c) = c from fun a b c => by omega] at a4
    · have := cnt_not E n
      omega
  intro j hj
  have b1 : (p : Int) ∣ ps (wr (s ^ n) n (mul t e)) (pt p s r j) n := by
    have := ps_congr (p := p) (f := wr (s ^ n) n (mul t e)) (g := zero) (pt p s r j) n (fun i hi => by
      simp only [zero]
      rw [Int.sub_zero]
      by_cases g : i < n - sp / 2
      · exact hz i g
      · exact hY i (by omega) hi)
    rwa [ps_zero, Int.sub_zero] at this
  have := Int.dvd_sub b1 (hv j)
  rwa [show ∀ a b : Int, a - (a - b) = b from fun a b => by omega] at this

/-! ## Euclid's way -/

theorem psub_len_right {p : Nat} {a b : List Int} (hb : Can p b) (h : a.length < b.length) : (psub p a b).length = b.length := by
  rw [psub, mk_length]
  refine tp_unique p _ _ _ (by omega) (fun j h1 h2 => by omega) (fun h0 hz => ?_)
  have := hb.last_nd h0
  refine this ?_
  have hz := emod_zero_iff.1 hz
  simp only [sub] at hz
  rw [cf_ge (l := a) (by omega)] at hz
  have := Int.dvd_neg.2 hz
  rwa [show -(0 - cf b (b.length - 1)) = cf b (b.length - 1) from by omega] at this

/-- what the rounds keep: what is here and next are the second and the third times A on the first places -/
structure LI (p sp : Nat) (A : S) (h nx bf fc : List Int) : Prop where
  ch : Can p h
  cn : Can p nx
  cb : Can p bf
  cf : Can p fc
  eh : ∀ j, j < sp → (p : Int) ∣ Pol.cf h j - mul (Pol.cf bf) A j
  en : ∀ j, j < sp → (p : Int) ∣ Pol.cf nx j - mul (Pol.cf fc) A j
  dn : nx.length < h.length
  db : bf.length < fc.length
  df : fc.length + h.length = sp + 2
  dh : sp + 2 ≤ 2 * h.length

/-- a power of x -/
def pw (n : Nat) : List Int := List.replicate n 0 ++ [1]
theorem pw_length (n : Nat) : (pw n).length = n + 1 := by simp [pw]
theorem pw_cf (n j : Nat) : cf (pw n) j = if j = n then 1 else 0 := by
  unfold cf pw
  rw [List.getD_eq_getElem?_getD, List.getElem?_append]
  by_cases h : j < n
  · rw [if_pos (by simpa using h), if_neg (by omega)]; simp [h]
  · rw [if_neg (by simpa using h), List.length_replicate]
    by_cases e : j = n
    · subst e; simp
    · rw [if_neg e, List.getElem?_eq_none (by simp; omega)]; rfl
theorem pw_can {p : Nat} (h3 : 3 ≤ p) (n : Nat) : Can p (pw n) := by
  refine ⟨fun j hj => ?_, fun h => ?_⟩
  · have := pw_cf n j
    unfold cf at this
    rw [this]; split <;> omega
  · have := pw_cf n ((pw n).length - 1)
    rw [pw_length] at this ⊢
    unfold cf at this
    rw [this]; simp

theorem LI.start {p sp : Nat} (h3 : 3 ≤ p) {L : List Int} (hL : Can p L) (hl : L.length ≤ sp) : LI p sp (Pol.cf L) (pw sp) L [] [1] := by
  refine ⟨pw_can h3 sp, hL, Can.nil p, ⟨fun j hj => by simp at hj; subst hj; simp; omega, fun _ => by simp⟩, fun j hj => ?_, fun j hj => ?_, ?_, by simp, ?_, ?_⟩
  · rw [cf_nil, zero_mul, pw_cf, if_neg (by omega)]; simp [zero]
  · rw [cf_one, one_mul, Int.sub_self]; exact Int.dvd_zero _
  · rw [pw_length]; omega
  · rw [pw_length]; simp; omega
  · rw [pw_length]; omega

/-- one round; q and r are quotient and rest -/
theorem LI.step {p sp : Nat} (hp : Num.Prime p) (h3 : 3 ≤ p) {A : S} {h nx bf fc q r : List Int} (i : LI p sp A h nx bf fc) (cq : Can p q) (cr : Can p r) (lt : r.length < nx.length) (eq : Eqp p (Pol.cf h) (add (mul (Pol.cf q) (Pol.cf nx)) (Pol.cf r)))
    (lq : q.length ≤ h.length + 1 - nx.length) (hc : sp + 2 ≤ 2 * nx.length) : LI p sp A nx r fc (psub p bf (pmul p q fc)) := by
  have hdn := i.dn
  have hdb := i.db
  have hdf := i.df
  have hq : h.length + 1 ≤ q.length + nx.length := by
    refine Nat.le_of_not_lt (fun g => ?_)
    have h1 := i.ch.last_nd (by omega)
    have h2 := eq (h.length - 1)
    simp only [add] at h2
    rw [show mul (Pol.cf q) (Pol.cf nx) (h.length - 1) = 0 from pmul_z q nx _ (by omega), cf_ge (l := r) (by omega), Int.add_zero, Int.sub_zero] at h2
    exact h1 h2
  have hm := pmul_len hp cq i.cf (by omega) (by omega)
  have hcm : Can p (pmul p q fc) := mk_can (by omega) _ _
  have hs := psub_len_right (a := bf) hcm (by omega)
  refine ⟨i.cn, cr, i.cf, mk_can (by omega) _ _, i.en, fun j hj => ?_, lt, by omega, by omega, by omega⟩
  have e1 := eq j
  have e2 := mul_low (Pol.cf q) (Pol.cf nx) (mul (Pol.cf fc) A) sp i.en j hj
  have e3 := i.eh j hj
  have e4 := (((psub_eqp p bf (pmul p q fc)).trans ((Eqp.refl p (Pol.cf bf)).sub (pmul_eqp p q fc))).mul_left A) j
  rw [sub_mul, mul_assoc] at e4
  simp only [sub, add] at e1 e4
  have := Int.dvd_sub (Int.dvd_sub (Int.dvd_sub e3 e1) e2) e4
  rwa [show ∀ H B Q R F X : Int, H - B - (H - (Q + R)) - (Q - F) - (X - (B - F)) = R - X from fun H B Q R F X => by omega] at this

end Go.Proofs.YtbpkmhibdaafiadDoor.Cod
