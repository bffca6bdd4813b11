/- Chapter 18, plainly: the end of a layer, its line; Check takes what Make tells. -/
import Derived.Test.YtpgnabmkfkcogaaGreatDoorGqAY
namespace Go.Proofs.YtpgnabmkfkcogaaGreatDoor
open Go.RowKit

theorem lnz_len (p : Nat) (t x y : List Int) (m : Nat) : (lnz p t x y m).length = m + 1 := ls_len _ _
theorem ext_onl {p m : Nat} (t x y : List Int) (hx : x.length = m) (r : Int) : Sum.ext (zat t) (zat (onl p x y r)) m % (p : Int) = Sum.ext (zat t) (fun k => zat x k + r * (zat y k - zat x k)) m % (p : Int) :=
  emod_of_dvd (Sum.ext_congr (fun i _ => by rw [Int.sub_self]; exact Int.dvd_zero _) (fun j hj => by
    unfold onl
    rw [ls_at _ _ _ (by omega)]
    exact Pol.emod_dvd p _))
/-- what the line tells at its ends -/
theorem lnz_zero {p m : Nat} (t x y : List Int) (hx : x.length = m) : zat (lnz p t x y m) 0 = Sum.ext (zat t) (zat x) m % (p : Int) := by
  unfold lnz
  rw [ls_at _ _ _ (by omega), ext_onl t x y hx]
  congr 1
  exact Sum.ext_same (fun _ _ => rfl) (fun j _ => by simp)
theorem lnz_one {p m : Nat} (t x y : List Int) (hx : x.length = m) : zat (lnz p t x y m) (min 1 m) = Sum.ext (zat t) (zat y) m % (p : Int) := by
  by_cases h : m = 0
  · subst h
    show zat (lnz p t x y 0) 0 = _
    rw [lnz_zero t x y hx, Sum.ext_zero, Sum.ext_zero]
  · rw [show min 1 m = 1 from by omega]
    unfold lnz
    rw [ls_at _ _ _ (by omega), ext_onl t x y hx]
    congr 1
    refine Sum.ext_same (fun _ _ => rfl) (fun j _ => ?_)
    show zat x j + ((1 : Nat) : Int) * (zat y j - zat x j) = zat y j
    rw [show ((1 : Nat) : Int) = 1 from rfl]
    omega
/-- .. and at every element -/
theorem lnz_at {p m : Nat} (hp : Num.Prime p) (h3 : 3 ≤ p) (hm : m + 1 ≤ p) (t x y : List Int) (hx : x.length = m) (r : Int) : atz p (lnz p t x y m) r = Sum.ext (zat t) (zat (onl p x y r)) m % (p : Int) := by
  have hk := line_catch (p := p) (v := m) hp (zat t) (zat x) (zat y) (FS p (cnt' (m + 1)) (lnz p t x y m) (m + 1)) (fun i => (i : Int)) (fun i j hij hj hd => by
    have := Int.le_of_dvd (by omega) hd
    omega) (fun i hi => by
    have h1 := told_at hp h3 (l := lnz p t x y m) (n := m + 1) hm hi
    have e : zat (lnz p t x y m) i = Sum.ext (zat t) (fun k => zat x k + (i : Int) * (zat y k - zat x k)) m % (p : Int) := by
      unfold lnz
      rw [ls_at _ _ _ hi, ext_onl t x y hx]
    rw [e] at h1
    have h2 := Pol.emod_dvd p (Sum.ext (zat t) (fun k => zat x k + (i : Int) * (zat y k - zat x k)) m)
    have := Int.dvd_add h1 h2
    rwa [show ∀ a b c : Int, a - b + (b - c) = a - c from fun a b c => by omega] at this) r
  have h1 := atz_ps h3 (lnz_len p t x y m) r
  rw [ext_onl t x y hx]
  refine eq_of_dvd (atz_bounds p _ r h3) (emod_bounds _ p h3) ?_
  have h2 := Pol.emod_dvd p (Sum.ext (zat t) (fun k => zat x k + r * (zat y k - zat x k)) m)
  have := Int.dvd_sub (Int.dvd_add h1 hk) h2
  rwa [show ∀ a b c d : Int, a - b + (b - c) - (d - c) = a - d from fun a b c d => by omega] at this
/-- Part with all variables is what stands at the end -/
theorem ptz_end {q m : Nat} {gs : List GatZ} {t z xs : List Int} (ht : t.length = 2 ^ m) (hl : xs.length = 2 * m) (hk : ∀ k, k < gs.length → (gat gs k).kind = 0 ∨ (gat gs k).kind = 1) : ptz q gs t m z xs = enz q gs z (xs.take m) (xs.drop m) (lnz q t (xs.take m) (xs.drop m) m) m := by
  have htl : (xs.take m).length = m := by rw [List.length_take]; omega
  have hdl : (xs.drop m).length = m := by rw [List.length_drop]; omega
  unfold enz
  rw [lnz_zero t _ _ htl, lnz_one t _ _ htl]
  obtain ⟨EX, hEX⟩ : ∃ EX, EX = Sum.ext (zat t) (zat (xs.take m)) m := ⟨_, rfl⟩
  obtain ⟨EY, hEY⟩ : ∃ EY, EY = Sum.ext (zat t) (zat (xs.drop m)) m := ⟨_, rfl⟩
  rw [← hEX, ← hEY]
  have hj : ∀ kind : Int, jnz q kind (EX % (q : Int)) (EY % (q : Int)) = jnz q kind EX EY := fun kind => jnz_congr (Pol.emod_dvd q EX) (Pol.emod_dvd q EY)
  rw [hj, hj]
  have hterm : ∀ i, i < gs.length → ptt q gs t m z xs i = wrt gs 0 z (xs.take m) (xs.drop m) i * jnz q 0 EX EY + wrt gs 1 z (xs.take m) (xs.drop m) i * jnz q 1 EX EY := fun i hi => by
    rw [ptt_eq ht (by omega), prz_gfac (by omega), show min xs.length m = m from by omega, hl, show 2 * m - m = m from by omega, Nat.sub_self, Nat.pow_zero, Nat.div_one, Nat.div_one]
    have e1 : Sum.ext (zat t) (xpt m (gat gs i).a.toNat (gat gs i).b.toNat xs) m = EX := by
      rw [hEX]
      refine Sum.ext_same (fun _ _ => rfl) (fun j hj => ?_)
      unfold xpt
      rw [if_pos (by omega), zat_take hj]
    have e2 : Sum.ext (zat t) (fun j => xpt m (gat gs i).a.toNat (gat gs i).b.toNat xs (m + j)) m = EY := by
      rw [hEY]
      refine Sum.ext_same (fun _ _ => rfl) (fun j hj => ?_)
      unfold xpt
      rw [if_pos (by omega), zat_drop]
    rw [e1, e2]
    have w1 : Sum.wgt (zat xs) m (gat gs i).a.toNat = Sum.wgt (zat (xs.take m)) m (gat gs i).a.toNat := wgt_same _ (fun j hj => (zat_take hj).symm)
    have w2 : Sum.wgt (fun j => zat xs (m + j)) m (gat gs i).b.toNat = Sum.wgt (zat (xs.drop m)) m (gat gs i).b.toNat := wgt_same _ (fun j _ => (zat_drop _ _ _).symm)
    rw [w1, w2]
    unfold wrt
    rw [htl, hdl]
    rcases hk i hi with h | h
    · rw [h, if_pos rfl, if_neg (by decide), Int.zero_mul, Int.add_zero, Int.mul_assoc, Int.mul_assoc, Int.mul_assoc, Int.mul_assoc]
    · rw [h, if_neg (by decide), if_pos rfl, Int.zero_mul, Int.zero_add, Int.mul_assoc, Int.mul_assoc, Int.mul_assoc, Int.mul_assoc]
  unfold ptz wrz
  rw [Dom.sm_same hterm, Dom.sm_add]
  generalize jnz q 0 EX EY = J0
  generalize jnz q 1 EX EY = J1
  have s0 : Dom.sm (fun i => wrt gs 0 z (xs.take m) (xs.drop m) i * J0) gs.length = Dom.sm (wrt gs 0 z (xs.take m) (xs.drop m)) gs.length * J0 := by
    rw [Int.mul_comm, ← Dom.sm_mul]; exact Dom.sm_same (fun i _ => Int.mul_comm _ _)
  have s1 : Dom.sm (fun i => wrt gs 1 z (xs.take m) (xs.drop m) i * J1) gs.length = Dom.sm (wrt gs 1 z (xs.take m) (xs.drop m)) gs.length * J1 := by
    rw [Int.mul_comm, ← Dom.sm_mul]; exact Dom.sm_same (fun i _ => Int.mul_comm _ _)
  rw [s0, s1]
  generalize Dom.sm (wrt gs 0 z (xs.take m) (xs.drop m)) gs.length = A
  generalize Dom.sm (wrt gs 1 z (xs.take m) (xs.drop m)) gs.length = B
  refine emod_of_dvd ?_
  have h0 : (q : Int) ∣ A % (q : Int) * J0 % (q : Int) - A * J0 := by
    have a1 := Pol.emod_dvd q (A % (q : Int) * J0)
    have a2 : (q : Int) ∣ (A % (q : Int) - A) * J0 := Int.dvd_mul_of_dvd_left (Pol.emod_dvd q A)
    rw [Int.sub_mul] at a2
    have := Int.dvd_add a1 a2
    rwa [show ∀ a b c : Int, a - b + (b - c) = a - c from fun a b c => by omega] at this
  have h1 : (q : Int) ∣ B % (q : Int) * J1 % (q : Int) - B * J1 := by
    have a1 := Pol.emod_dvd q (B % (q : Int) * J1)
    have a2 : (q : Int) ∣ (B % (q : Int) - B) * J1 := Int.dvd_mul_of_dvd_left (Pol.emod_dvd q B)
    rw [Int.sub_mul] at a2
    have := Int.dvd_add a1 a2
    rwa [show ∀ a b c : Int, a - b + (b - c) = a - c from fun a b c => by omega] at this
  have := Int.dvd_neg.2 (Int.dvd_add h0 h1)
  rwa [show ∀ a b c d : Int, -(a - b + (c - d)) = b + d - (a + c) from fun a b c d => by omega] at this

/-- what is told so far in a layer: where the chain is, what was drawn -/
def mks (q n : Nat) (gs : List GatZ) (t : List Int) (m : Nat) (z D : List Int) : Nat → List Int × List Int
  | 0 => (D, [])
  | k + 1 => (gan q n (mks q n gs t m z D k).1 (tld q gs t m z (mks q n gs t m z D k).2), (mks q n gs t m z D k).2 ++ [zat (gan q n (mks q n gs t m z D k).1 (tld q gs t m z (mks q n gs t m z D k).2)) 0])
/-- a layer's rounds -/
def mkr (q n : Nat) (gs : List GatZ) (t : List Int) (m : Nat) (z D : List Int) (k : Nat) : List (List Int) := (List.range k).map (fun j => tld q gs t m z (mks q n gs t m z D j).2)
theorem mkr_len (q n : Nat) (gs : List GatZ) (t : List Int) (m : Nat) (z D : List Int) (k : Nat) : (mkr q n gs t m z D k).length = k := by simp [mkr]
theorem mkr_rat {q n : Nat} {gs : List GatZ} {t : List Int} {m : Nat} {z D : List Int} {k j : Nat} (h : j < k) : rat (mkr q n gs t m z D k) j = tld q gs t m z (mks q n gs t m z D j).2 := by
  unfold rat mkr
  rw [List.getD_eq_getElem?_getD]
  simp [h]
theorem mks_gds {q n : Nat} {gs : List GatZ} {t : List Int} {m : Nat} {z D : List Int} {K : Nat} : ∀ k, k ≤ K → gds q n (mkr q n gs t m z D K) D k = (mks q n gs t m z D k).1 ∧ gxs q n (mkr q n gs t m z D K) D k = (mks q n gs t m z D k).2
  | 0, _ => ⟨rfl, rfl⟩
  | k + 1, h => by
    obtain ⟨h1, h2⟩ := mks_gds (q := q) (n := n) (gs := gs) (t := t) (m := m) (z := z) (D := D) (K := K) k (by omega)
    have e1 : gds q n (mkr q n gs t m z D K) D (k + 1) = (mks q n gs t m z D (k + 1)).1 := by
      show gan q n (gds q n (mkr q n gs t m z D K) D k) (rat (mkr q n gs t m z D K) k) = _
      rw [h1, mkr_rat (by omega)]
      rfl
    refine ⟨e1, ?_⟩
    rw [gxs_succ, h2, e1]
    rfl
theorem mks_len {q n : Nat} {gs : List GatZ} {t : List Int} {m : Nat} {z D : List Int} : ∀ k, (mks q n gs t m z D k).2.length = k
  | 0 => rfl
  | k + 1 => by
    show ((mks q n gs t m z D k).2 ++ [_]).length = _
    rw [List.length_append, mks_len k]
    rfl
/-- a layer that is told as it is, is taken; and what is claimed beneath is so -/
theorem layer_true {q n m : Nat} (hp : Num.Prime q) (h23 : 23 ≤ q) (hm : m ≤ 6) {gs : List GatZ} {t : List Int} {s : GSt} (ht : t.length = 2 ^ m) (hk : ∀ k, k < gs.length → (gat gs k).kind = 0 ∨ (gat gs k).kind = 1) (hc : s.c = ptz q gs t m s.z []) :
    GlO q n m gs (mkr q n gs t m s.z s.D (2 * m)) (lnz q t ((mks q n gs t m s.z s.D (2 * m)).2.take m) ((mks q n gs t m s.z s.D (2 * m)).2.drop m) m) s ∧
      (gnx q n m (mkr q n gs t m s.z s.D (2 * m)) (lnz q t ((mks q n gs t m s.z s.D (2 * m)).2.take m) ((mks q n gs t m s.z s.D (2 * m)).2.drop m) m) s).c = Sum.ext (zat t) (zat (gnx q n m (mkr q n gs t m s.z s.D (2 * m)) (lnz q t ((mks q n gs t m s.z s.D (2 * m)).2.take m) ((mks q n gs t m s.z s.D (2 * m)).2.drop m) m) s).z) m % (q : Int) := by
  have h3 : 3 ≤ q := by omega
  have hcs : ∀ k, k ≤ 2 * m → gcs q n (mkr q n gs t m s.z s.D (2 * m)) s.D s.c k = ptz q gs t m s.z (mks q n gs t m s.z s.D k).2 := by
    intro k hk'
    rcases k with _ | k
    · exact hc
    · show atz q (rat (mkr q n gs t m s.z s.D (2 * m)) k) (zat (gds q n (mkr q n gs t m s.z s.D (2 * m)) s.D (k + 1)) 0) = _
      rw [mkr_rat (by omega), (mks_gds (k + 1) hk').1, tld_at hp h3 ht (by rw [mks_len]; omega)]
      rfl
  have hX : gxs q n (mkr q n gs t m s.z s.D (2 * m)) s.D (2 * m) = (mks q n gs t m s.z s.D (2 * m)).2 := (mks_gds (2 * m) (Nat.le_refl _)).2
  have hXl : (mks q n gs t m s.z s.D (2 * m)).2.length = 2 * m := mks_len _
  refine ⟨⟨⟨mkr_len _ _ _ _ _ _ _ _, lnz_len _ _ _ _ _⟩, fun k hk' => ?_, ?_⟩, ?_⟩
  · unfold GrO
    rw [hcs k (by omega), mkr_rat hk']
    refine ⟨ls_len _ _, ?_⟩
    unfold tld
    rw [ls_at _ _ _ (by omega), ls_at _ _ _ (by omega)]
    rw [ptz_two (xs := (mks q n gs t m s.z s.D k).2) ht (by rw [mks_len]; omega)]
    rfl
  · rw [hX, hcs (2 * m) (Nat.le_refl _), ptz_end ht hXl hk]
  · show atz q _ _ = Sum.ext (zat t) (zat (onl q _ _ _)) m % _
    rw [hX]
    exact lnz_at hp h3 (by omega) t _ _ (by rw [List.length_take]; omega) _

/-- where one is who makes what shows a circuit; what is told of a layer -/
def mrs (q n : Nat) (wide : Int) (lys : List (List GatZ)) (inputs : List Int) (ly : Nat) (s : GSt) : List (List Int) := mkr q n (lyt lys ly) (gvs q lys inputs ly) (bnn wide lys ly) s.z s.D (2 * bnn wide lys ly)
def mln (q n : Nat) (wide : Int) (lys : List (List GatZ)) (inputs : List Int) (ly : Nat) (s : GSt) : List Int := lnz q (gvs q lys inputs ly) ((mks q n (lyt lys ly) (gvs q lys inputs ly) (bnn wide lys ly) s.z s.D (2 * bnn wide lys ly)).2.take (bnn wide lys ly)) ((mks q n (lyt lys ly) (gvs q lys inputs ly) (bnn wide lys ly) s.z s.D (2 * bnn wide lys ly)).2.drop (bnn wide lys ly)) (bnn wide lys ly)
def mst (q n : Nat) (wide : Int) (lys : List (List GatZ)) (inputs : List Int) : Nat → GSt
  | 0 => gs0 q n wide lys (gvs q lys inputs lys.length)
  | i + 1 => gnx q n (bnn wide lys (lys.length - 1 - i)) (mrs q n wide lys inputs (lys.length - 1 - i) (mst q n wide lys inputs i)) (mln q n wide lys inputs (lys.length - 1 - i) (mst q n wide lys inputs i)) (mst q n wide lys inputs i)
/-- what Make tells of the first layers from above -/
def mRs (q n : Nat) (wide : Int) (lys : List (List GatZ)) (inputs : List Int) (k : Nat) : List (List (List Int)) := (List.range k).map (fun i => mrs q n wide lys inputs (lys.length - 1 - i) (mst q n wide lys inputs i))
def mLs (q n : Nat) (wide : Int) (lys : List (List GatZ)) (inputs : List Int) (k : Nat) : List (List Int) := (List.range k).map (fun i => mln q n wide lys inputs (lys.length - 1 - i) (mst q n wide lys inputs i))
theorem mRs_len (q n : Nat) (wide : Int) (lys : List (List GatZ)) (inputs : List Int) (k : Nat) : (mRs q n wide lys inputs k).length = k := by simp [mRs]
theorem mLs_len (q n : Nat) (wide : Int) (lys : List (List GatZ)) (inputs : List Int) (k : Nat) : (mLs q n wide lys inputs k).length = k := by simp [mLs]
theorem mRs_at {q n : Nat} {wide : Int} {lys : List (List GatZ)} {inputs : List Int} {k i : Nat} (h : i < k) : rrt (mRs q n wide lys inputs k) i = mrs q n wide lys inputs (lys.length - 1 - i) (mst q n wide lys inputs i) := by
  unfold rrt mRs
  rw [List.getD_eq_getElem?_getD]
  simp [h]
theorem mLs_at {q n : Nat} {wide : Int} {lys : List (List GatZ)} {inputs : List Int} {k i : Nat} (h : i < k) : rat (mLs q n wide lys inputs k) i = mln q n wide lys inputs (lys.length - 1 - i) (mst q n wide lys inputs i) := by
  unfold rat mLs
  rw [List.getD_eq_getElem?_getD]
  simp [h]
theorem gst_mst {q n : Nat} {wide : Int} {lys : List (List GatZ)} {inputs : List Int} : ∀ i, i ≤ lys.length → gst q n wide lys (mRs q n wide lys inputs lys.length) (mLs q n wide lys inputs lys.length) (gs0 q n wide lys (gvs q lys inputs lys.length)) i = mst q n wide lys inputs i
  | 0, _ => rfl
  | i + 1, h => by
    show gnx _ _ _ _ _ _ = gnx _ _ _ _ _ _
    rw [gst_mst i (by omega), mRs_at (by omega), mLs_at (by omega)]
/-- all is taken, and what is claimed of the inputs is so -/
theorem true_plain {q n : Nat} (hp : Num.Prime q) (h23 : 23 ≤ q) {wide : Int} {lys : List (List GatZ)} {inputs : List Int} (hF : flt wide lys = 0) (hin : inputs.length = 2 ^ wide.toNat) :
    GcO q n wide lys (gvs q lys inputs lys.length) (mRs q n wide lys inputs lys.length) (mLs q n wide lys inputs lys.length) ∧ (mst q n wide lys inputs lys.length).c = Sum.ext (zat inputs) (zat (mst q n wide lys inputs lys.length).z) wide.toNat % (q : Int) := by
  obtain ⟨hS, hG⟩ := flt_zero hF
  have h1 := hS.2.1
  have hlen : ∀ i, i ≤ lys.length → (gvs q lys inputs i).length = 2 ^ bnn wide lys i := fun i hi => gvs_len hS hin hi
  have hz : ∀ i, i ≤ lys.length → (mst q n wide lys inputs i).z.length = bnn wide lys (lys.length - i) := by
    intro i hi
    rcases i with _ | i
    · exact drs_len' _ _ _ _
    · show (onl _ _ _ _).length = _
      rw [onl_len, List.length_take, gxs_len, show lys.length - (i + 1) = lys.length - 1 - i from by omega]
      omega
  have key : ∀ i, i ≤ lys.length → (mst q n wide lys inputs i).c = Sum.ext (zat (gvs q lys inputs (lys.length - i))) (zat (mst q n wide lys inputs i).z) (bnn wide lys (lys.length - i)) % (q : Int) ∧ ∀ j, j < i → GlO q n (bnn wide lys (lys.length - 1 - j)) (lyt lys (lys.length - 1 - j)) (mrs q n wide lys inputs (lys.length - 1 - j) (mst q n wide lys inputs j)) (mln q n wide lys inputs (lys.length - 1 - j) (mst q n wide lys inputs j)) (mst q n wide lys inputs j) := by
    intro i
    induction i with
    | zero => exact fun _ => ⟨rfl, fun j hj => absurd hj (Nat.not_lt_zero _)⟩
    | succ i ih =>
      intro hi
      obtain ⟨hc, ha⟩ := ih (by omega)
      have hly : lys.length - 1 - i < lys.length := by omega
      have hb := hS.bn (show lys.length - 1 - i ≤ lys.length by omega)
      have e1 : lys.length - i = lys.length - 1 - i + 1 := by omega
      have hgl : (lyt lys (lys.length - 1 - i)).length = 2 ^ (mst q n wide lys inputs i).z.length := by rw [hz i (by omega), e1]; exact (hS.own hly).1
      have hc' : (mst q n wide lys inputs i).c = ptz q (lyt lys (lys.length - 1 - i)) (gvs q lys inputs (lys.length - 1 - i)) (bnn wide lys (lys.length - 1 - i)) (mst q n wide lys inputs i).z [] := by
        rw [ptz_nil hgl (fun k hk => ?_), hc, e1, hz i (by omega), e1]
        · rfl
        · have hg := hG _ hly k hk
          unfold GtO at hg
          have e3 : (2 : Nat) ^ (bnz wide lys (lys.length - 1 - i)).toNat = 2 ^ bnn wide lys (lys.length - 1 - i) := rfl
          rw [e3] at hg
          exact ⟨by omega, by omega⟩
      have hL := layer_true (n := n) (m := bnn wide lys (lys.length - 1 - i)) (gs := lyt lys (lys.length - 1 - i)) (t := gvs q lys inputs (lys.length - 1 - i)) (s := mst q n wide lys inputs i) hp h23 hb.2 (hlen _ (by omega)) (fun k hk => by
        have hg := (hG _ hly k hk).1
        omega) hc'
      refine ⟨?_, fun j hj => ?_⟩
      · rw [show lys.length - (i + 1) = lys.length - 1 - i from by omega]
        exact hL.2
      · by_cases e : j = i
        · rw [e]; exact hL.1
        · exact ha j (by omega)
  refine ⟨⟨⟨hF, ?_, mRs_len _ _ _ _ _ _, mLs_len _ _ _ _ _ _⟩, fun i hi => ?_⟩, ?_⟩
  · rw [hlen _ (Nat.le_refl _), (hS.own (show lys.length - 1 < lys.length by omega)).1, show lys.length - 1 + 1 = lys.length from by omega]
  · rw [gst_mst i (by omega), mRs_at hi, mLs_at hi]
    exact (key lys.length (Nat.le_refl _)).2 i hi
  · have hk := (key lys.length (Nat.le_refl _)).1
    rw [Nat.sub_self] at hk
    have e0 : bnn wide lys 0 = wide.toNat := rfl
    rw [hk, e0]
    refine emod_of_dvd (Sum.ext_congr (fun i hi => ?_) (fun j _ => by rw [Int.sub_self]; exact Int.dvd_zero _))
    show (q : Int) ∣ zat (ls (fun i => zat inputs i % (q : Int)) inputs.length) i - zat inputs i
    rw [ls_at _ _ _ (by omega)]
    exact Pol.emod_dvd q _

end Go.Proofs.YtpgnabmkfkcogaaGreatDoor
