/- Plain facts on folded words: low degrees, distances. -/
import Derived.Test.YtmmlphdekeflfaaDoorFolP
namespace Go.Proofs.YtmmlphdekeflfaaDoor.Fol
open Pol Dom

theorem Cir.unlike {p n : Nat} {r s : Int} (C : Cir p n r s) {i j : Nat} (hij : i < j) (hj : j < n) : ¬ (p : Int) ∣ pt p s r j - pt p s r i := fun h => by
  unfold pt at h
  have h1 : (p : Int) ∣ s * r ^ j - s * r ^ i := dvdt (dvdn (emod_dvd p (s * r ^ j))) (dvdt h (emod_dvd p (s * r ^ i)))
  rw [show s * r ^ j - s * r ^ i = s * (r ^ j - r ^ i) from by grind] at h1
  exact (prime_mul C.pr h1).elim C.sd (C.ord.unlike C.pr hij hj)
/-- what the word is of, place by place -/
theorem Cir.bk_is {p n : Nat} {r s : Int} (C : Cir p n r s) (hn : ¬ (p : Int) ∣ (n : Int)) (zs : List Int) (f : Nat → Int) (hf : ∀ j, j < n → (p : Int) ∣ zat zs j - ps f (pt p s r j) n) : ∀ j, j < n → (p : Int) ∣ cf (bk p n r s zs) j - f j := by
  have hl := bk_len p n r s zs
  have hp0 : 0 < p := by have := C.h3; omega
  refine roots C.pr n (Pol.sub (cf (bk p n r s zs)) f) (pt p s r) (fun i j h1 h2 => C.unlike h1 h2) (fun i hi => ?_)
  have e1 : evz p (bk p n r s zs) (pt p s r i) = zat zs i % (p : Int) := evz_coefs C.pr C.h3 zs C.ord C.sd hn i hi
  have e2 : (p : Int) ∣ ps (cf (bk p n r s zs)) (pt p s r i) n - zat zs i := by
    rw [ps_stay (cf (bk p n r s zs)) _ (bk p n r s zs).length n hl (fun j hj => cf_ge hj)]
    have : evz p (bk p n r s zs) (pt p s r i) = ps (cf (bk p n r s zs)) (pt p s r i) (bk p n r s zs).length % (p : Int) := rfl
    rw [this] at e1
    exact (emod_eq_iff hp0).1 e1
  have e3 := dvdt e2 (hf i hi)
  have e4 : ps (Pol.sub (cf (bk p n r s zs)) f) (pt p s r i) n = ps (cf (bk p n r s zs)) (pt p s r i) n - ps f (pt p s r i) n := by
    have h := ps_add (Pol.sub (cf (bk p n r s zs)) f) f (pt p s r i) n
    rw [show Pol.add (Pol.sub (cf (bk p n r s zs)) f) f = cf (bk p n r s zs) from funext fun j => by unfold Pol.add Pol.sub; omega] at h
    omega
  rw [e4]
  exact e3
theorem Cir.bk_low {p n : Nat} {r s : Int} (C : Cir p n r s) (hn : ¬ (p : Int) ∣ (n : Int)) (zs : List Int) (f : Nat → Int) (hf : ∀ j, j < n → (p : Int) ∣ zat zs j - ps f (pt p s r j) n) (K : Nat) : (bk p n r s zs).length ≤ K ↔ ∀ j, K ≤ j → j < n → (p : Int) ∣ f j := by
  have hp0 : 0 < p := by have := C.h3; omega
  have hl := bk_len p n r s zs
  have hb := C.bk_is hn zs f hf
  constructor
  · intro h j h1 h2
    have := hb j h2
    rw [cf_ge (by omega)] at this
    have := dvdn this
    rwa [Int.sub_zero] at this
  · intro h
    rcases Nat.lt_or_ge K (bk p n r s zs).length with g | g
    · exfalso
      refine (bk_can hp0 n r s zs).last_nd (by omega) ?_
      have h1 := hb ((bk p n r s zs).length - 1) (by omega)
      have h2 := h ((bk p n r s zs).length - 1) (by omega) (by omega)
      have := Int.dvd_add h1 h2
      rwa [show ∀ a b : Int, a - b + b = a from fun a b => by omega] at this
    · exact g
/-- the word, by what it is of -/
theorem Cir.word_is {p n : Nat} {r s : Int} (C : Cir p n r s) (hn : ¬ (p : Int) ∣ (n : Int)) (zs : List Int) : ∀ j, j < n → (p : Int) ∣ zat zs j - ps (cf (bk p n r s zs)) (pt p s r j) n := fun j hj => by
  have hp0 : 0 < p := by have := C.h3; omega
  have e1 : evz p (bk p n r s zs) (pt p s r j) = zat zs j % (p : Int) := evz_coefs C.pr C.h3 zs C.ord C.sd hn j hj
  rw [ps_stay (cf (bk p n r s zs)) _ (bk p n r s zs).length n (bk_len p n r s zs) (fun j hj => cf_ge hj)]
  exact dvdn ((emod_eq_iff hp0).1 e1)
theorem cnt_split (P : Nat → Bool) (m n : Nat) : Cod.cnt P (m + n) = Cod.cnt P m + Cod.cnt (fun j => P (m + j)) n := by
  induction n with
  | zero => simp [Cod.cnt]
  | succ n ih => rw [← Nat.add_assoc, Cod.cnt, ih, Cod.cnt]; omega
/-- what is near stays near -/
theorem Cir.near {p m : Nat} {r s : Int} (C : Cir p (2 * m) r s) (f : Nat → Int) (M : Nat) (word y z W : List Int) {c d : Int} (hcd : ¬ (p : Int) ∣ d - c) (hlw : word.length = 2 * m) (hly : y.length = m) (hlz : z.length = m) (hlW : W.length = 2 * m)
    (hy : ∀ i, i < m → (p : Int) ∣ zat y i - ps (evod f c) (pt p (s * s % (p : Int)) (r * r % (p : Int)) i) M) (hz : ∀ i, i < m → (p : Int) ∣ zat z i - ps (evod f d) (pt p (s * s % (p : Int)) (r * r % (p : Int)) i) M)
    (hW : ∀ j, j < 2 * m → (p : Int) ∣ zat W j - ps f (pt p s r j) (2 * M)) : dist p word W ≤ 2 * (dist p (foldz p m r s word c) y + dist p (foldz p m r s word d) z) := by
  have hp0 : 0 < p := by have := C.h3; omega
  have hlf : ∀ c, (foldz p m r s word c).length = m := fun c => foldz_len _ _ _ _ _ _
  unfold dist
  rw [hlw, hlW, hlf, hlf, hly, hlz, Nat.max_self, Nat.max_self, show 2 * m = m + m from by omega, cnt_split]
  have key : ∀ i, i < m → dq p (foldz p m r s word c) y i = false → dq p (foldz p m r s word d) z i = false → dq p word W i = false ∧ dq p word W (m + i) = false := fun i hi h1 h2 => by
    unfold dq at h1 h2
    rw [hlf, hly] at h1
    rw [hlf, hlz] at h2
    simp only [hi, decide_true, Bool.true_and, Bool.not_eq_false', beq_iff_eq] at h1 h2
    have e1 := dvdt ((emod_eq_iff hp0).1 h1) (hy i hi)
    have e2 := dvdt ((emod_eq_iff hp0).1 h2) (hz i hi)
    obtain ⟨b1, b2⟩ := C.fold_back (ev f) (od f) M word hcd hi e1 e2
    have w1 := hW i (by omega)
    rw [ps_halves] at w1
    have w2 := dvdt (hW (i + m) (by omega)) (ps_neg f (x := pt p s r i) (y := pt p s r (i + m)) (C.neg i) M)
    have k1 := (emod_eq_iff hp0).2 (dvdt b1 (dvdn w1))
    have k2 := (emod_eq_iff hp0).2 (dvdt b2 (dvdn w2))
    unfold dq
    rw [hlw, hlW]
    rw [Nat.add_comm m i]
    constructor
    · simp [show i < 2 * m from by omega, k1]
    · simp [show i + m < 2 * m from by omega, k2]
  have hA : Cod.cnt (dq p word W) m ≤ Cod.cnt (fun i => dq p (foldz p m r s word c) y i || dq p (foldz p m r s word d) z i) m := Cod.cnt_mono (fun i hi h => by
    cases h1 : dq p (foldz p m r s word c) y i with
    | true => rfl
    | false =>
      cases h2 : dq p (foldz p m r s word d) z i with
      | true => simp
      | false => rw [(key i hi h1 h2).1] at h; cases h)
  have hB : Cod.cnt (fun j => dq p word W (m + j)) m ≤ Cod.cnt (fun i => dq p (foldz p m r s word c) y i || dq p (foldz p m r s word d) z i) m := Cod.cnt_mono (fun i hi h => by
    cases h1 : dq p (foldz p m r s word c) y i with
    | true => rfl
    | false =>
      cases h2 : dq p (foldz p m r s word d) z i with
      | true => simp
      | false => rw [(key i hi h1 h2).2] at h; cases h)
  have hor := Cod.cnt_or (dq p (foldz p m r s word c) y) (dq p (foldz p m r s word d) z) m
  omega

end Go.Proofs.YtmmlphdekeflfaaDoor.Fol
