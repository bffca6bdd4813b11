/- FoldNear, plain: two polynomials of low degree put together. -/
import Derived.Test.YtbbjbhiihfnkmahLawOCatches
namespace Go.Proofs.Ytbbjbhiihfnkmah
open Go.RowKit

theorem cf_single (x : Int) : Pol.cf [x] = Pol.sc x Pol.one := by
  funext n
  cases n <;> simp [Pol.cf, Pol.sc, Pol.one]
theorem pmul_single (p : Nat) (a : List Int) (x : Int) (j : Nat) : (p : Int) ∣ zat (Pol.pmul p a [x]) j - x * zat a j := by
  have h := Pol.pmul_eqp p a [x] j
  rw [cf_single, Pol.mul_sc, Pol.mul_comm, Pol.one_mul] at h
  rw [zat_cf, zat_cf]
  exact h
theorem psub_at (p : Nat) (a b : List Int) (j : Nat) : (p : Int) ∣ zat (Pol.psub p a b) j - (zat a j - zat b j) := by
  have h := Pol.psub_eqp p a b j
  rw [zat_cf, zat_cf, zat_cf]
  exact h
/-- the values of a polynomial of low degree -/
theorem vlz_low {p : Nat} (hp : 0 < p) (n M : Nat) (r s : Int) (A : List Int) (g : Nat → Int) (hA : tpn p (zat A) A.length ≤ M) (hg : ∀ j, j < M → (p : Int) ∣ zat A j - g j) : ∀ i, i < n → (p : Int) ∣ zat (vlz p n r s A) i - Pol.ps g (Dom.pt p s r i) M := fun i hi => by
  have hl : (Pol.trim p A).length ≤ M := by rw [show (Pol.trim p A).length = tpn p (zat A) A.length from Pol.mk_length _ _ _]; exact hA
  unfold vlz
  rw [ls_at _ _ _ hi, ← evz_trim hp, evz_more _ _ hl]
  refine Fol.dvdt (Pol.emod_dvd p _) (Pol.ps_congr _ M fun j hj => ?_)
  refine Fol.dvdt ?_ (hg j hj)
  rw [zat_cf, zat_cf]
  exact Pol.trim_eqp p A j
def mixf (even odd : List Int) : Nat → Int := fun j => if j % 2 = 0 then zat even (j / 2) else zat odd (j / 2)
theorem near_lists {w : World} {p b d m : Nat} {r s : Int} (D : DO w p b d (2 * m) r s) (word A B odd even : List Int) (x y xi : Int) (M : Nat) (hA : tpn p (zat A) A.length ≤ M) (hB : tpn p (zat B) B.length ≤ M) (hxi : (p : Int) ∣ xi * (y - x) - 1) (hw : word.length = 2 * m)
    (ho : odd = Pol.pmul p (Pol.psub p B A) [xi]) (he : even = Pol.psub p A (Pol.pmul p odd [x])) :
    dist p word (vlz p (2 * m) r s (ls (mixf even odd) (2 * M))) ≤ 2 * (dist p (Fol.foldz p m r s word x) (vlz p m (r * r % (p : Int)) (s * s % (p : Int)) A) + dist p (Fol.foldz p m r s word y) (vlz p m (r * r % (p : Int)) (s * s % (p : Int)) B)) := by
  have hp0 : 0 < p := by have := D.h3; omega
  have hxy : ¬ (p : Int) ∣ y - x := fun h => by
    have h1 := Int.dvd_sub (Int.dvd_mul_of_dvd_right (b := xi) h) hxi
    rw [show xi * (y - x) - (xi * (y - x) - 1) = 1 from by omega] at h1
    have h2 := Int.le_of_dvd (by decide) h1
    have := D.h3
    omega
  have h1 : ∀ j, (p : Int) ∣ zat odd j - xi * (zat B j - zat A j) := fun j => by
    rw [ho]
    refine Fol.dvdt (pmul_single p _ xi j) ?_
    have := Int.dvd_mul_of_dvd_right (b := xi) (psub_at p B A j)
    rwa [Int.mul_sub] at this
  have h2 : ∀ j, (p : Int) ∣ zat even j - (zat A j - x * zat odd j) := fun j => by
    rw [he]
    refine Fol.dvdt (psub_at p A _ j) ?_
    have := Int.dvd_neg.2 (pmul_single p odd x j)
    rwa [show -(zat (Pol.pmul p odd [x]) j - x * zat odd j) = zat A j - zat (Pol.pmul p odd [x]) j - (zat A j - x * zat odd j) from by omega] at this
  have hev : ∀ c j, Fol.evod (mixf even odd) c j = zat even j + c * zat odd j := fun c j => by
    unfold Fol.evod mixf
    rw [if_pos (by omega), if_neg (by omega), show 2 * j / 2 = j from by omega, show (2 * j + 1) / 2 = j from by omega]
  refine D.cir.near (mixf even odd) M word _ _ _ hxy hw (vlz_len _ _ _ _ _) (vlz_len _ _ _ _ _) (vlz_len _ _ _ _ _) (vlz_low hp0 m M _ _ A _ hA fun j hj => ?_) (vlz_low hp0 m M _ _ B _ hB fun j hj => ?_) fun j hj => ?_
  · rw [hev]
    have := Int.dvd_neg.2 (h2 j)
    rwa [show -(zat even j - (zat A j - x * zat odd j)) = zat A j - (zat even j + x * zat odd j) from by omega] at this
  · rw [hev]
    have e1 := Int.dvd_neg.2 (h2 j)
    have e2 := Int.dvd_neg.2 (Int.dvd_mul_of_dvd_right (b := y - x) (h1 j))
    have e3 := Int.dvd_neg.2 (Int.dvd_mul_of_dvd_left (c := zat B j - zat A j) hxi)
    have e4 := Int.dvd_add e1 (Int.dvd_add e2 e3)
    rwa [show -(zat even j - (zat A j - x * zat odd j)) + (-((y - x) * (zat odd j - xi * (zat B j - zat A j))) + -((xi * (y - x) - 1) * (zat B j - zat A j))) = zat B j - (zat even j + y * zat odd j) from by grind] at e4
  · unfold vlz
    rw [ls_at _ _ _ hj, evz_more _ _ (show (ls (mixf even odd) (2 * M)).length ≤ 2 * M by rw [ls_len]; exact Nat.le_refl _)]
    refine Fol.dvdt (Pol.emod_dvd p _) (Pol.ps_congr _ _ fun i hi => ?_)
    rw [ls_at _ _ _ hi, Int.sub_self]
    exact Int.dvd_zero _

theorem dist_le (p : Nat) (xs ys : List Int) : dist p xs ys ≤ max xs.length ys.length := Cod.cnt_le _ _
theorem psub_fits {p : Nat} (h3 : 3 ≤ p) (hm : p ≤ 2147483647) (a b : List Int) : Fits (Pol.psub p a b) := can_fits hm (Pol.mk_can (by omega) _ _)
theorem pmul_fits {p : Nat} (h3 : 3 ≤ p) (hm : p ≤ 2147483647) (a b : List Int) : Fits (Pol.pmul p a b) := can_fits hm (Pol.mk_can (by omega) _ _)
theorem psub_lst {p b c1 c2 : Nat} {a1 a2 : Option Addr} {xs ys : List Int} {w : World} (h3 : 3 ≤ p) (hm : p ≤ 2147483647) (hp : w.cell? ⟨b, 0, none⟩ = some (.int .i64 p))
    (hn1 : xs.length ≤ 17592186044416) (hn2 : ys.length ≤ 17592186044416) (hf1 : Fits xs) (hf2 : Fits ys) (hr1 : RowB w.heap.size w a1 xs) (hr2 : RowB w.heap.size w a2 ys) :
    Calls Try.prog 18 #[.pointer (some ⟨b, 0, none⟩), .slice a1 xs.length c1, .slice a2 ys.length c2] w fun e w' => ∃ a c, e = .returned (.slice a (Pol.psub p xs ys).length c) ∧ Lst w'.heap.size w' a c (Pol.psub p xs ys) ∧ Below w.heap.size w w' :=
  (psub_any p b c1 c2 (· < w.heap.size) a1 a2 xs ys w h3 hm hp hn1 hn2 hf1 hf2 hr1 hr2 (fun _ h => h)).mono fun e w' ⟨cap, g1, g2, g3, g4, g5⟩ => ⟨_, cap, g1, ⟨g3.row (Nat.le_refl _) (fun _ _ => rfl) (by omega), g2, fun e => by cases e⟩, g4⟩
theorem pmul_lst {p b c1 c2 : Nat} {a1 a2 : Option Addr} {xs ys : List Int} {w : World} (hpr : Num.Prime p) (h3 : 3 ≤ p) (hm : p ≤ 2147483647) (hp : w.cell? ⟨b, 0, none⟩ = some (.int .i64 p))
    (hn1 : xs.length + ys.length ≤ 35184372088832) (hf1 : Fits xs) (hf2 : Fits ys) (hr1 : RowB w.heap.size w a1 xs) (hr2 : RowB w.heap.size w a2 ys) :
    Calls Try.prog 20 #[.pointer (some ⟨b, 0, none⟩), .slice a1 xs.length c1, .slice a2 ys.length c2] w fun e w' => ∃ a c, e = .returned (.slice a (Pol.pmul p xs ys).length c) ∧ Lst w'.heap.size w' a c (Pol.pmul p xs ys) ∧ Below w.heap.size w w' :=
  (pmul_any p b c1 c2 (· < w.heap.size) a1 a2 xs ys w hpr h3 hm hp hn1 hf1 hf2 hr1 hr2 (fun _ h => h)).mono fun _ _ ⟨a, cap, g1, g2, g3, g4⟩ => ⟨a, cap, g1, ⟨g2.row, g3.2, fun e => (g3.1 e).2⟩, g4⟩

end Go.Proofs.Ytbbjbhiihfnkmah
