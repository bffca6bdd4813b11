/- Plain facts on mending a word: lists of places; what is 0 at given points alone; the polynomial that a word is of, but for few places, is what the division gives. -/
import Derived.Test.YtbbjbhiihfnkmahGreatDoorPlain
import Derived.Test.YtbbjbhiihfnkmahGreatDoorPolDiv
import Derived.Test.YtbbjbhiihfnkmahGreatDoorDoms
import Derived.Test.YtbbjbhiihfnkmahGreatDoorPolF
namespace Go.Proofs.YtbbjbhiihfnkmahGreatDoor
open Go.RowKit Pol

/-- of the first n places those of which P holds, each as F tells it -/
def pk (P : Nat → Bool) (F : Nat → Int) : Nat → List Int
  | 0 => []
  | n + 1 => if P n then pk P F n ++ [F n] else pk P F n

theorem pk_len (P : Nat → Bool) (F : Nat → Int) (n : Nat) : (pk P F n).length = Cod.cnt P n := by
  induction n with
  | zero => rfl
  | succ n ih => simp only [pk, Cod.cnt]; split <;> simp [ih]
theorem pk_congr {P Q : Nat → Bool} {F G : Nat → Int} {n : Nat} (h : ∀ j, j < n → P j = Q j) (h2 : ∀ j, j < n → P j = true → F j = G j) : pk P F n = pk Q G n := by
  induction n with
  | zero => rfl
  | succ n ih =>
    simp only [pk]
    rw [ih (fun j hj => h j (by omega)) (fun j hj => h2 j (by omega)), ← h n (by omega)]
    by_cases g : P n = true
    · simp only [g, if_true]; rw [h2 n (by omega) g]
    · rw [if_neg g, if_neg g]
/-- each stands for a place -/
theorem pk_at (P : Nat → Bool) (F : Nat → Int) (n i : Nat) (hi : i < (pk P F n).length) : ∃ j, j < n ∧ P j = true ∧ zat (pk P F n) i = F j := by
  induction n with
  | zero => simp [pk] at hi
  | succ n ih =>
    simp only [pk] at hi ⊢
    by_cases g : P n = true
    · simp only [g, if_true] at hi ⊢
      by_cases e : i < (pk P F n).length
      · obtain ⟨j, h1, h2, h3⟩ := ih e
        exact ⟨j, by omega, h2, by rw [← h3]; simp [zat, List.getElem?_append, e]⟩
      · refine ⟨n, by omega, g, ?_⟩
        rw [List.length_append, List.length_singleton] at hi
        have : i = (pk P F n).length := by omega
        subst this
        simp [zat]
    · simp only [g] at hi ⊢
      obtain ⟨j, h1, h2, h3⟩ := ih hi
      exact ⟨j, by omega, h2, h3⟩
/-- each place is there -/
theorem pk_has (P : Nat → Bool) (F : Nat → Int) (n j : Nat) (hj : j < n) (hP : P j = true) : ∃ i, i < (pk P F n).length ∧ zat (pk P F n) i = F j := by
  induction n with
  | zero => omega
  | succ n ih =>
    by_cases e : j = n
    · subst e
      simp only [pk, hP, if_true]
      exact ⟨(pk P F j).length, by simp, by simp [zat]⟩
    · obtain ⟨i, h1, h2⟩ := ih (by omega)
      simp only [pk]
      by_cases g : P n = true
      · simp only [g, if_true]
        exact ⟨i, by simp; omega, by rw [← h2]; simp [zat, List.getElem?_append, h1]⟩
      · simp only [g]
        exact ⟨i, h1, h2⟩

/-! ## 0 at given points alone -/
theorem ps_lin (x y : Int) : ps (lin y) x 2 = x - y := by simp [ps, lin, sub, sh, sc, one, Int.pow_succ]; omega
theorem lin_far (y : Int) (j : Nat) (h : 2 ≤ j) : lin y j = 0 := by
  simp only [lin, sub, sh, sc, one]
  rw [if_neg (show ¬ j < 1 by omega), if_neg (show ¬ j - 1 = 0 by omega), if_neg (show ¬ j = 0 by omega)]; simp
theorem ps_van (xs : Nat → Int) (x : Int) (n : Nat) : ps (van xs (n + 1)) x (n + 2) = ps (van xs n) x (n + 1) * (x - xs n) := by
  have h1 := Dom.ps_mul (van xs n) (lin (xs n)) x (n + 1) 2 (fun j hj => van_zero xs n j (by omega)) (fun j hj => lin_far _ j hj)
  rw [ps_lin] at h1
  have h2 : van xs (n + 1) = mul (van xs n) (lin (xs n)) := rfl
  rw [← h1, ← h2]
  exact (Dom.ps_stay _ x (n + 2) (n + 1 + 2) (by omega) (fun j hj => van_zero xs (n + 1) j (by omega))).symm
theorem van_zero_iff {p : Nat} (hp : Num.Prime p) (xs : Nat → Int) (x : Int) (n : Nat) : (p : Int) ∣ ps (van xs n) x (n + 1) ↔ ∃ i, i < n ∧ (p : Int) ∣ x - xs i := by
  induction n with
  | zero =>
    have : ps (van xs 0) x 1 = 1 := by simp [ps, van, one]
    rw [this]
    refine ⟨fun h => ?_, fun ⟨i, hi, _⟩ => absurd hi (by omega)⟩
    have := Int.le_of_dvd (by decide) h
    have := hp.1
    omega
  | succ n ih =>
    rw [ps_van]
    constructor
    · intro h
      rcases prime_mul hp h with h | h
      · obtain ⟨i, h1, h2⟩ := ih.1 h; exact ⟨i, by omega, h2⟩
      · exact ⟨n, by omega, h⟩
    · rintro ⟨i, hi, hd⟩
      by_cases e : i = n
      · subst e; exact Int.dvd_mul_of_dvd_right hd
      · exact Int.dvd_mul_of_dvd_left (ih.2 ⟨i, by omega, hd⟩)

theorem evz_pvan {p : Nat} (hp : Num.Prime p) (xs : List Int) (x : Int) : evz p (pvan p xs) x = 0 ↔ ∃ i, i < xs.length ∧ (p : Int) ∣ x - zat xs i := by
  have h0 : 0 < p := by have := hp.1; omega
  rw [pvan, evz_mkn h0 _ _ (fun j hj => by rw [van_zero _ _ _ (by omega)]; simp), emod_zero_iff]
  exact van_zero_iff hp _ _ _
theorem pvan_can {p : Nat} (hp : 0 < p) (xs : List Int) : Pol.Can p (pvan p xs) := mk_can hp _ _

/-- what is 0 at the points of the places of which G holds, at these alone -/
theorem evz_lost {p n : Nat} (hp : Num.Prime p) {r s : Int} (ho : Dom.Ord p r n) (hs : ¬ (p : Int) ∣ s) (G : Nat → Bool) (j : Nat) (hj : j < n) : evz p (pvan p (pk G (Dom.pt p s r) n)) (Dom.pt p s r j) = 0 ↔ G j = true := by
  rw [evz_pvan hp]
  constructor
  · rintro ⟨i, hi, hd⟩
    obtain ⟨m, h1, h2, h3⟩ := pk_at G (Dom.pt p s r) n i hi
    rw [h3] at hd
    rcases Nat.lt_trichotomy j m with e | e | e
    · have := Int.dvd_neg.2 hd
      rw [show -(Dom.pt p s r j - Dom.pt p s r m) = Dom.pt p s r m - Dom.pt p s r j from by omega] at this
      exact absurd this (Cod.pt_unlike hp ho hs j m e h1)
    · rw [e]; exact h2
    · exact absurd hd (Cod.pt_unlike hp ho hs m j e hj)
  · intro hg
    obtain ⟨i, h1, h2⟩ := pk_has G (Dom.pt p s r) n j hj hg
    exact ⟨i, h1, by rw [h2, Int.sub_self]; exact Int.dvd_zero _⟩

/-! ## the way back to the polynomial -/
theorem evz_ps {p : Nat} (zs : List Int) (x : Int) (N : Nat) (h : zs.length ≤ N) : (p : Int) ∣ evz p zs x - ps (cf zs) x N := by
  have h1 : ps (cf zs) x N = ps (cf zs) x zs.length := Dom.ps_stay _ x _ _ h (fun j hj => cf_ge hj)
  have h2 : ps (zat zs) x zs.length = ps (cf zs) x zs.length := by rw [show zat zs = cf zs from funext fun j => zat_cf zs j]
  unfold evz
  rw [h1, h2]
  exact emod_dvd p _

theorem evz_ps_mul {p : Nat} (xs bs : List Int) (x : Int) (N : Nat) (h : xs.length + bs.length ≤ N + 1) : (p : Int) ∣ evz p xs x * evz p bs x - ps (mul (cf xs) (cf bs)) x N := by
  have h1 := Dom.ps_mul (cf xs) (cf bs) x xs.length bs.length (fun j hj => cf_ge hj) (fun j hj => cf_ge hj)
  have h2 : ps (mul (cf xs) (cf bs)) x N = ps (cf xs) x xs.length * ps (cf bs) x bs.length := by
    rw [← h1]
    rcases Nat.lt_or_ge N (xs.length + bs.length) with g | g
    · exact (Dom.ps_stay _ x N _ (by omega) (fun j hj => pmul_z xs bs j (by omega))).symm
    · exact Dom.ps_stay _ x _ N g (fun j hj => pmul_z xs bs j (by omega))
  rw [h2]
  have e1 := evz_ps (p := p) xs x xs.length (Nat.le_refl _)
  have e2 := evz_ps (p := p) bs x bs.length (Nat.le_refl _)
  have := Int.dvd_add (Int.dvd_mul_of_dvd_left (c := evz p bs x) e1) (Int.dvd_mul_of_dvd_right (b := ps (cf xs) x xs.length) e2)
  rwa [show (evz p xs x - ps (cf xs) x xs.length) * evz p bs x + ps (cf xs) x xs.length * (evz p bs x - ps (cf bs) x bs.length) = evz p xs x * evz p bs x - ps (cf xs) x xs.length * ps (cf bs) x bs.length from by grind] at this

theorem cnt_true (n : Nat) : Cod.cnt (fun _ => true) n = n := by
  induction n with
  | zero => rfl
  | succ n ih => simp only [Cod.cnt, ih, if_true]

theorem mend {p n : Nat} (hp : Num.Prime p) (h3 : 3 ≤ p) {r s : Int} (ho : Dom.Ord p r n) (hs : ¬ (p : Int) ∣ s) (k sp : Nat) (G E : Nat → Bool) (w g U A h nx bf t B : List Int)
    (hsp : sp + k + Cod.cnt G n = n) (hg : Pol.Can p g) (hgl : g.length ≤ k) (hE : ∀ j, j < n → E j = (!G j && !(evz p g (Dom.pt p s r j) == zat w j % (p : Int)))) (hc : 2 * Cod.cnt E n ≤ sp)
    (hU : Pol.Can p U) (hUl : U.length = Cod.cnt G n + 1) (hUz : ∀ j, j < n → (evz p U (Dom.pt p s r j) = 0 ↔ G j = true))
    (hAl : A.length ≤ n) (hA : ∀ j, j < n → evz p A (Dom.pt p s r j) = evz p U (Dom.pt p s r j) * zat w j % (p : Int))
    (hL : Cod.LI p sp (cf (A.drop (n - sp))) h nx bf t) (hx : 2 * nx.length < sp + 2)
    (hBl : B.length ≤ n) (hB : ∀ j, j < n → evz p B (Dom.pt p s r j) = evz p (pmul p U t) (Dom.pt p s r j) * zat w j % (p : Int)) :
    IsD p B (trim p (pmul p U t)) g [] := by
  have h0 : 0 < p := by omega
  have htl : 2 * t.length ≤ sp + 2 := by have := hL.dh; have := hL.df; omega
  have ht1 : 1 ≤ t.length := by have := hL.db; omega
  have hD : Pol.Can p (pmul p U t) := mk_can h0 _ _
  have hDl := pmul_len hp hU hL.cf (by omega) (by omega)
  -- what is wrong
  have hev : ∀ j, j < n → (p : Int) ∣ ps (sub (cf A) (mul (cf g) (cf U))) (Dom.pt p s r j) n - evz p U (Dom.pt p s r j) * (zat w j - evz p g (Dom.pt p s r j)) := fun j hj => by
    have hsub : ∀ (x : Int) (m : Nat), ps (sub (cf A) (mul (cf g) (cf U))) x m = ps (cf A) x m - ps (mul (cf g) (cf U)) x m := fun x m => by
      induction m with
      | zero => rfl
      | succ m ih => simp only [ps, ih, sub]; grind
    rw [hsub]
    have e1 := evz_ps (p := p) A (Dom.pt p s r j) n hAl
    have e2 := evz_ps_mul (p := p) g U (Dom.pt p s r j) n (by omega)
    have e3 := emod_dvd p (evz p U (Dom.pt p s r j) * zat w j)
    rw [← hA j hj] at e3
    have := Int.dvd_add (Int.dvd_sub e2 e1) e3
    rwa [show ∀ a b c d u v : Int, c * u - d - (a - b) + (a - u * v) = b - d - u * (v - c) from fun a b c d u v => by grind] at this
  have hnd : ∀ (zs : List Int) (x : Int), (p : Int) ∣ evz p zs x → evz p zs x = 0 := fun zs x hd => nonneg_dvd_zero (evz_bounds p zs x h3).1 (evz_bounds p zs x h3).2 hd
  have hwg : ∀ j, (p : Int) ∣ zat w j - evz p g (Dom.pt p s r j) ↔ evz p g (Dom.pt p s r j) = zat w j % (p : Int) := fun j => by
    have e1 : evz p g (Dom.pt p s r j) % (p : Int) = evz p g (Dom.pt p s r j) := Int.emod_eq_of_lt (evz_bounds p g _ h3).1 (evz_bounds p g _ h3).2
    rw [← emod_eq_iff h0, e1]
    exact ⟨fun h => h.symm, fun h => h.symm⟩
  have hloc := Cod.locate hp ho hs (sub (cf A) (mul (cf g) (cf U))) (cf t) sp (by omega)
    (fun j hj => by simp only [sub]; rw [cf_ge (l := A) (by omega), show mul (cf g) (cf U) j = 0 from pmul_z g U j (by omega)]; rfl)
    (fun j hj => cf_ge (by omega))
    (fun i h1 h2 => by
      have e1 := hL.en i h1
      rw [cf_ge (l := nx) (by omega), Int.zero_sub] at e1
      have e2 : (fun j => sub (cf A) (mul (cf g) (cf U)) (n - sp + j)) = cf (A.drop (n - sp)) := by
        funext j
        simp only [sub]
        rw [show mul (cf g) (cf U) (n - sp + j) = 0 from pmul_z g U _ (by omega), Int.sub_zero]
        simp [cf, List.getElem?_drop]
      rw [e2]
      exact Int.dvd_neg.1 e1)
    E
    (fun j hj hEj => by
      have e1 := hev j hj
      rw [hE j hj] at hEj
      have e2 : (p : Int) ∣ evz p U (Dom.pt p s r j) * (zat w j - evz p g (Dom.pt p s r j)) := by
        cases hG : G j with
        | true => rw [(hUz j hj).2 hG, Int.zero_mul]; exact Int.dvd_zero _
        | false =>
          rw [hG] at hEj
          simp at hEj
          exact Int.dvd_mul_of_dvd_right ((hwg j).2 hEj)
      have := Int.dvd_add e1 e2
      rwa [show ∀ a b : Int, a - b + b = a from fun a b => by omega] at this)
    hc
  have hagree : ∀ j, j < n → (p : Int) ∣ ps (cf B) (Dom.pt p s r j) n - ps (mul (cf g) (cf (pmul p U t))) (Dom.pt p s r j) n := fun j hj => by
    have e1 := evz_ps (p := p) B (Dom.pt p s r j) n hBl
    have e2 := evz_ps_mul (p := p) g (pmul p U t) (Dom.pt p s r j) n (by omega)
    have e3 := emod_dvd p (evz p (pmul p U t) (Dom.pt p s r j) * zat w j)
    rw [← hB j hj] at e3
    have e4 : (p : Int) ∣ evz p (pmul p U t) (Dom.pt p s r j) * (zat w j - evz p g (Dom.pt p s r j)) := by
      have e5 : evz p (pmul p U t) (Dom.pt p s r j) = evz p U (Dom.pt p s r j) * evz p t (Dom.pt p s r j) % (p : Int) := (evz_mul h0 U t _).symm
      cases hG : G j with
      | true => rw [e5, (hUz j hj).2 hG]; simp
      | false =>
        by_cases hw : evz p g (Dom.pt p s r j) = zat w j % (p : Int)
        · exact Int.dvd_mul_of_dvd_right ((hwg j).2 hw)
        · have ht : (p : Int) ∣ ps (cf t) (Dom.pt p s r j) n := by
            refine (prime_mul hp (hloc j hj)).resolve_left (fun hd => ?_)
            have e6 := Int.dvd_sub hd (hev j hj)
            rw [show ∀ a b : Int, a - (a - b) = b from fun a b => by omega] at e6
            rcases prime_mul hp e6 with e7 | e7
            · have := (hUz j hj).1 (hnd _ _ e7)
              rw [hG] at this
              exact absurd this (by decide)
            · exact hw ((hwg j).1 e7)
          have e8 : evz p t (Dom.pt p s r j) = 0 := by
            have e9 := Int.dvd_add (evz_ps (p := p) t (Dom.pt p s r j) n (by omega)) ht
            rw [show ∀ a b : Int, a - b + b = a from fun a b => by omega] at e9
            exact hnd _ _ e9
          rw [e5, e8]; simp
    have := Int.dvd_add (Int.dvd_sub (Int.dvd_add e2 e4) e1) e3
    rwa [show ∀ a b c d u v : Int, c * u - d + u * (v - c) - (a - b) + (a - u * v) = b - d from fun a b c d u v => by grind] at this
  have hsame := Cod.same_of_agree hp (Cod.pt_unlike hp ho hs) (cf B) (mul (cf g) (cf (pmul p U t))) n (fun _ => true) (fun j hj _ => hagree j hj) (by rw [cnt_true]; exact Nat.le_refl _)
  rw [trim_id h0 hD]
  refine ⟨hg, Pol.Can.nil p, by simp; omega, fun j => ?_⟩
  rw [cf_nil]
  simp only [add, zero, Int.add_zero]
  by_cases hj : j < n
  · exact hsame j hj
  · rw [cf_ge (l := B) (by omega), show mul (cf g) (cf (pmul p U t)) j = 0 from pmul_z g _ j (by omega), Int.sub_self]; exact Int.dvd_zero _

end Go.Proofs.YtbbjbhiihfnkmahGreatDoor
