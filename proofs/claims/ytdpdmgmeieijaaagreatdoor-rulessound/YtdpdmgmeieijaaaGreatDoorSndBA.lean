/- Rows that break no rule are a run: plainly. Package rules: Table, where there may be one. attestref8.Table: how it ends, its rows in memory. -/
import Derived.Test.YtdpdmgmeieijaaaGreatDoorSndAZ
import Derived.Test.YtdpdmgmeieijaaaGreatDoorSndAY
import Derived.Test.YtdpdmgmeieijaaaGreatDoorSndAM
namespace Go.Proofs.YtdpdmgmeieijaaaGreatDoor
open Go.RowKit Go.Maps

theorem cel3_red (p : Nat) (op a b c fp ap : Int) (j : Nat) : cel3 p op a b c (fp % (p : Int)) (ap % (p : Int)) j = cel3 p op a b c fp ap j := by
  unfold cel3
  simp only [em_add1, em_sub1, Int.emod_emod_of_dvd _ (Int.dvd_refl (p : Int))]
/-- what is told is among pairs -/
def TolQ (Q : List (Int × Int)) (cs : List (Int × Int)) : Prop := ∀ u, 0 ≤ finz cs u → (u, cvl cs u) ∈ Q
def FnQ (Q : List (Int × Int)) : Prop := ∀ x y, x ∈ Q → y ∈ Q → x.1 = y.1 → x.2 = y.2
theorem TolQ.at {Q cs : List (Int × Int)} (h : TolQ Q cs) (hf : FnQ Q) {u v : Int} (hu : 0 ≤ finz cs u) (hq : (u, v) ∈ Q) : cvl cs u = v := hf _ _ (h u hu) hq rfl
theorem tel_tol {Q cs : List (Int × Int)} (h : TolQ Q cs) (hf : FnQ Q) {x y : Int} (hq : (x, y) ∈ Q) : (tel cs x y).1 = 0 ∧ TolQ Q (tel cs x y).2 := by
  have hno : ¬ (0 ≤ finz cs x ∧ cvl cs x ≠ y) := fun ⟨h1, h2⟩ => h2 (h.at hf h1 hq)
  have h0 : (tel cs x y).1 = 0 := by unfold tel; rw [if_neg hno]
  refine ⟨h0, fun u hu => ?_⟩
  rw [(tel_same h0).1] at hu ⊢
  rw [tld_cvl (tel_same h0).2]
  by_cases e : u = x
  · rw [if_pos e, e]; exact hq
  · rw [if_neg e]
    rcases tld_finz.1 hu with g | g
    · exact h u g
    · exact absurd g e

section
variable {p : Nat} {L : List InsZ} {r : List Int} {c : Nat}
/-- a step's work, by a row -/
theorem sim_wrk (hp : Num.Prime p) (h3 : 3 ≤ p) (hr : RwZ p L r c) {n : Rg} (hpc : n.pc = (c : Int)) (hfp : n.fp = zat r 0 % (p : Int)) (hrv : n.rv = zat r 2 % (p : Int)) {Q cs : List (Int × Int)} (hT : TolQ Q cs) (hf : FnQ Q) {x0 x1 x2 : Int} (q0 : (x0, zat r 7 % (p : Int)) ∈ Q) (q1 : (x1, zat r 8 % (p : Int)) ∈ Q) (q2 : (x2, zat r 9 % (p : Int)) ∈ Q) :
    (wrk p (insat L c).op (insat L c).b x0 x1 x2 n cs).1 = 10 ∨ ((wrk p (insat L c).op (insat L c).b x0 x1 x2 n cs).1 = 0 ∧ TolQ Q (wrk p (insat L c).op (insat L c).b x0 x1 x2 n cs).2 ∧
      ((insat L c).op = 0 ∨ (insat L c).op = 9 ∨ (insat L c).op = 11 → cvl (wrk p (insat L c).op (insat L c).b x0 x1 x2 n cs).2 x0 = zat r 7 % (p : Int)) ∧
      ((insat L c).op = 11 → cvl (wrk p (insat L c).op (insat L c).b x0 x1 x2 n cs).2 x1 = zat r 8 % (p : Int) ∧ cvl (wrk p (insat L c).op (insat L c).b x0 x1 x2 n cs).2 x2 = zat r 9 % (p : Int))) := by
  have hwk := hr.wk
  have hmo := hr.mo
  have ee : ∀ x : Int, x % (p : Int) % (p : Int) = x % (p : Int) := fun x => Int.emod_emod_of_dvd _ (Int.dvd_refl (p : Int))
  have bd : ∀ x : Int, 0 ≤ x % (p : Int) ∧ x % (p : Int) < (p : Int) := fun x => emod_bounds x p h3
  have t1 : (1 : Int) % (p : Int) = 1 := em_one h3
  unfold tvW at hwk
  unfold tvM at hmo
  unfold wrk
  generalize (insat L c).op = o at *
  generalize (insat L c).b = ib at *
  generalize zat r 7 = y0 at *
  generalize zat r 8 = y1 at *
  generalize zat r 9 = y2 at *
  generalize zat r 11 = h at *
  -- a telling that fits
  have tell : ∀ (x y : Int), (x, y) ∈ Q → ∀ (P1 P2 : Prop) (c0 c1 c2 : Int), ¬ P1 → ¬ P2 → (tel cs x y).1 = 10 ∨ ((tel cs x y).1 = 0 ∧ TolQ Q (tel cs x y).2 ∧ (P1 → cvl (tel cs x y).2 x0 = c0) ∧ (P2 → cvl (tel cs x y).2 x1 = c1 ∧ cvl (tel cs x y).2 x2 = c2)) := fun x y hq P1 P2 c0 c1 c2 n1 n2 => by
    obtain ⟨g1, g2⟩ := tel_tol hT hf hq
    exact .inr ⟨g1, g2, fun e => absurd e n1, fun e => absurd e n2⟩
  by_cases e1 : o = 1 ∨ o = 2 ∨ o = 3 ∨ o = 6
  · rw [if_pos e1]
    by_cases g0 : ¬ 0 ≤ finz cs x0
    · rw [if_pos g0]; exact .inl rfl
    rw [if_neg g0]
    by_cases g1 : ¬ 0 ≤ finz cs x1
    · rw [if_pos g1]; exact .inl rfl
    rw [if_neg g1, hT.at hf (Decidable.not_not.1 g0) q0, hT.at hf (Decidable.not_not.1 g1) q1]
    refine tell _ _ ?_ _ _ _ _ _ (by omega) (by omega)
    have hrk : rkn p o (y0 % (p : Int)) (y1 % (p : Int)) = y2 % (p : Int) := by
      unfold rkn
      by_cases c1 : o = 1
      · rw [if_pos c1] at hwk ⊢
        rw [em_add1, em_add2]
        rw [ee] at hwk
        exact em_eq hwk
      rw [if_neg c1] at hwk ⊢
      by_cases c2 : o = 2
      · rw [if_pos c2] at hwk ⊢
        rw [em_sub1, em_sub2]
        rw [ee] at hwk
        exact em_eq hwk
      rw [if_neg c2] at hwk ⊢
      by_cases c3 : o = 3
      · rw [if_pos c3] at hwk ⊢
        rw [em_mul1, em_mul2]
        rw [ee] at hwk
        exact em_eq hwk
      have c6 : o = 6 := by omega
      rw [if_neg c3, if_neg (by omega), if_neg (by omega), if_pos c6, ee] at hwk
      rw [if_neg c3, if_neg (by omega)]
      rw [if_neg (by omega), if_pos c6, ee] at hmo
      by_cases ev : y0 % (p : Int) = y1 % (p : Int)
      · rw [if_pos ev]
        have d0 : (y0 - y1) % (p : Int) = 0 := Int.emod_eq_emod_iff_emod_sub_eq_zero.1 ev
        rw [← em_sub1, ← em_mul1, d0, Int.zero_mul, Int.zero_emod, show (0 : Int) - (1 - y2) = y2 - 1 by omega] at hwk
        rw [em_eq hwk, t1]
      · rw [if_neg ev]
        rcases Pol.prime_mul hp (Int.dvd_of_emod_eq_zero hmo) with d | d
        · exact (Int.emod_eq_zero_of_dvd d).symm
        · exact absurd (em_eq (Int.emod_eq_zero_of_dvd d)) ev
    rw [hrk]
    exact q2
  rw [if_neg e1]
  by_cases e4 : o = 4
  · rw [if_pos e4]
    subst e4
    rw [if_neg (by decide), if_neg (by decide), if_neg (by decide), if_pos rfl, ee] at hwk
    rw [if_pos rfl, ee] at hmo
    by_cases g0 : ¬ 0 ≤ finz cs x0
    · rw [if_pos g0]; exact .inl rfl
    rw [if_neg g0]
    by_cases g1 : ¬ 0 ≤ finz cs x1
    · rw [if_pos g1]; exact .inl rfl
    rw [if_neg g1, hT.at hf (Decidable.not_not.1 g0) q0, hT.at hf (Decidable.not_not.1 g1) q1]
    have hv1 : y1 % (p : Int) ≠ 0 := fun e => by
      rw [← em_sub1, ← em_mul2, e, Int.mul_zero, Int.zero_emod] at hmo
      obtain ⟨k, hk⟩ := Int.dvd_of_emod_eq_zero hmo
      rcases Int.lt_trichotomy k 0 with g | g | g
      · have : (p : Int) * k ≤ (p : Int) * (-1) := Int.mul_le_mul_of_nonneg_left (by omega) (by omega)
        omega
      · subst g; simp at hk
      · have : (p : Int) * 1 ≤ (p : Int) * k := Int.mul_le_mul_of_nonneg_left (by omega) (by omega)
        omega
    rw [if_neg hv1]
    refine tell _ _ ?_ _ _ _ _ _ (by omega) (by omega)
    have hrk : rkn p 4 (y0 % (p : Int)) (y1 % (p : Int)) = y2 % (p : Int) := by
      unfold rkn
      rw [if_neg (by decide), if_neg (by decide), if_neg (by decide), if_pos rfl]
      obtain ⟨k, hk⟩ := invz_one hp h3 (bd y1).1 (bd y1).2 hv1
      generalize (invn p (y1 % (p : Int)) : Int) = v at *
      have e0 := em_eq hwk
      rw [← e0, em_mul1, ← em_mul1, ← em_mul2 y2 y1, em_mul1]
      have : y2 * (y1 % (p : Int)) * v = y2 + (p : Int) * (y2 * k) := by
        have h5 : y2 * (y1 % (p : Int)) * v = y2 * (v * (y1 % (p : Int))) := by grind
        rw [h5, hk]
        grind
      rw [this, Int.add_mul_emod_self_left]
    rw [hrk]
    exact q2
  rw [if_neg e4]
  by_cases e5 : o = 5
  · rw [if_pos e5]
    rw [if_neg (by omega), if_neg (by omega), if_neg (by omega), if_neg e4, if_pos e5, ee] at hwk
    refine tell _ _ ?_ _ _ _ _ _ (by omega) (by omega)
    rw [← em_eq hwk]; exact q0
  rw [if_neg e5]
  by_cases e7 : o = 7
  · rw [if_pos e7]
    rw [if_neg (by omega), if_neg (by omega), if_neg (by omega), if_neg e4, if_neg e5, if_neg (by omega), if_pos (.inl e7), ee] at hwk
    by_cases g0 : ¬ 0 ≤ finz cs x0
    · rw [if_pos g0]; exact .inl rfl
    rw [if_neg g0]
    by_cases g1 : ¬ 0 ≤ finz cs x1
    · rw [if_pos g1]; exact .inl rfl
    rw [if_neg g1, hT.at hf (Decidable.not_not.1 g0) q0, hT.at hf (Decidable.not_not.1 g1) q1, if_pos (em_eq hwk)]
    exact .inr ⟨rfl, hT, fun e => by omega, fun e => by omega⟩
  rw [if_neg e7]
  by_cases e10 : o = 10
  · rw [if_pos e10]
    rw [if_neg (by omega), if_neg (by omega), if_neg (by omega), if_neg e4, if_neg e5, if_neg (by omega), if_neg (by omega), if_neg (by omega), if_pos e10, ee] at hwk
    rw [if_neg e4, if_neg (by omega), if_pos e10, ee] at hmo
    have w0 : n.fp = y0 % (p : Int) := by rw [hfp]; exact (em_eq hwk).symm
    have w1 : (n.pc + 1) % (p : Int) = y1 % (p : Int) := by rw [hpc]; exact (em_eq hmo).symm
    rw [w0, w1]
    obtain ⟨g1, g2⟩ := tel_tol hT hf q0
    rw [if_neg (fun e => e g1)]
    obtain ⟨g3, g4⟩ := tel_tol g2 hf q1
    exact .inr ⟨g3, g4, fun e => by omega, fun e => by omega⟩
  rw [if_neg e10]
  by_cases e11 : o = 11
  · rw [if_pos e11]
    by_cases g0 : ¬ 0 ≤ finz cs x0
    · rw [if_pos g0]; exact .inl rfl
    rw [if_neg g0]
    by_cases g1 : ¬ 0 ≤ finz cs x1
    · rw [if_pos g1]; exact .inl rfl
    rw [if_neg g1]
    by_cases g2 : ¬ 0 ≤ finz cs x2
    · rw [if_pos g2]; exact .inl rfl
    rw [if_neg g2]
    exact .inr ⟨rfl, hT, fun _ => hT.at hf (Decidable.not_not.1 g0) q0, fun _ => ⟨hT.at hf (Decidable.not_not.1 g1) q1, hT.at hf (Decidable.not_not.1 g2) q2⟩⟩
  rw [if_neg e11]
  by_cases e12 : o = 12
  · rw [if_pos e12]
    rw [if_neg (by omega), if_neg (by omega), if_neg (by omega), if_neg e4, if_neg e5, if_neg (by omega), if_neg (by omega), if_neg (by omega), if_neg e10, if_pos e12, ee] at hwk
    refine tell _ _ ?_ _ _ _ _ _ (by omega) (by omega)
    rw [hrv, ← em_eq hwk]; exact q0
  rw [if_neg e12]
  by_cases e13 : o = 13
  · rw [if_pos e13]
    rw [if_neg (by omega), if_neg (by omega), if_neg (by omega), if_neg e4, if_neg e5, if_neg (by omega), if_pos (.inr e13), ee] at hwk
    by_cases g0 : ¬ 0 ≤ finz cs x0
    · rw [if_pos g0]; exact .inl rfl
    rw [if_neg g0, hT.at hf (Decidable.not_not.1 g0) q0]
    refine tell _ _ ?_ _ _ _ _ _ (by omega) (by omega)
    rw [em_eq hwk]; exact q1
  rw [if_neg e13]
  by_cases e9 : o = 9 ∨ o = 0
  · rw [if_pos e9]
    by_cases g0 : ¬ 0 ≤ finz cs x0
    · rw [if_pos g0]; exact .inl rfl
    rw [if_neg g0]
    exact .inr ⟨rfl, hT, fun _ => hT.at hf (Decidable.not_not.1 g0) q0, fun e => by omega⟩
  rw [if_neg e9]
  by_cases e8 : o = 8
  · rw [if_pos e8]
    exact .inr ⟨rfl, hT, fun e => by omega, fun e => by omega⟩
  rw [if_neg (by omega), if_neg (by omega), if_neg (by omega), if_neg e4, if_neg e5, if_neg (by omega), if_neg (by omega), if_neg (by omega), if_neg e10, if_neg e12, if_neg (by omega), t1] at hwk
  exact absurd hwk (by decide)

/-- what comes next, by rows -/
theorem sim_next (hp : Num.Prime p) (hL : L.length ≤ p) (hr : RwZ p L r c) {r' : List Int} {c' : Nat} (hr' : RwZ p L r' c') (hn : RwY p L r r' c c') {n : Rg} (hpc : n.pc = (c : Int)) (hfp : n.fp = zat r 0 % (p : Int)) (hap : n.ap = zat r 1 % (p : Int)) (hrv : n.rv = zat r 2 % (p : Int)) {s0 s1 s2 : Int}
    (k0 : (insat L c).op = 0 ∨ (insat L c).op = 9 ∨ (insat L c).op = 11 → s0 = zat r 7 % (p : Int)) (k1 : (insat L c).op = 11 → s1 = zat r 8 % (p : Int) ∧ s2 = zat r 9 % (p : Int)) (hop : (insat L c).op ≠ 0) :
    (mvg p (insat L c).op (insat L c).a (insat L c).b n s0 s1 s2).pc = (c' : Int) ∧ (mvg p (insat L c).op (insat L c).a (insat L c).b n s0 s1 s2).fp = zat r' 0 % (p : Int) ∧ (mvg p (insat L c).op (insat L c).a (insat L c).b n s0 s1 s2).ap = zat r' 1 % (p : Int) ∧ (mvg p (insat L c).op (insat L c).a (insat L c).b n s0 s1 s2).rv = zat r' 2 % (p : Int) := by
  have ee : ∀ x : Int, x % (p : Int) % (p : Int) = x % (p : Int) := fun x => Int.emod_emod_of_dvd _ (Int.dvd_refl (p : Int))
  have hc' : (c' : Int) % (p : Int) = (c' : Int) := Int.emod_eq_of_lt (by omega) (by have := hr'.lt; omega)
  have hpcs := em_eq hn.pc
  rw [hc'] at hpcs
  rw [hn.fp, hn.ap, hn.rv, hpcs]
  have hwk := hr.wk
  unfold tvW at hwk
  unfold mvg tvN tvF tvA tvR
  generalize (insat L c).op = o at *
  generalize (insat L c).a = ia at *
  generalize (insat L c).b = ib at *
  generalize zat r 7 = y0 at *
  generalize zat r 8 = y1 at *
  generalize zat r 9 = y2 at *
  generalize zat r 11 = h at *
  rw [if_neg hop]
  by_cases e8 : o = 8
  · rw [if_pos e8, if_pos (.inl e8), if_neg (by omega), if_neg (by omega), if_neg (by omega), if_neg (by omega)]
    exact ⟨rfl, hfp, hap, hrv⟩
  rw [if_neg e8]
  by_cases e9 : o = 9
  · rw [if_pos e9, if_neg (show ¬ (o = 8 ∨ o = 10) by omega), if_pos e9, if_neg (show ¬ o = 10 by omega), if_neg (show ¬ o = 11 by omega), if_neg (show ¬ o = 10 by omega), if_neg (show ¬ o = 11 by omega)]
    rw [if_neg (by omega), if_neg (by omega), if_neg (by omega), if_neg (by omega), if_neg (by omega), if_neg (by omega), if_neg (by omega), if_pos e9, ee] at hwk
    have hs := k0 (.inr (.inl e9))
    by_cases ez : s0 = 0
    · rw [if_pos ez]
      refine ⟨?_, hfp, hap, hrv⟩
      rw [hs] at ez
      show ib % (p : Int) = _
      rw [ee]
      obtain ⟨k, hk⟩ := Int.dvd_of_emod_eq_zero ez
      refine (em_eq (em_zero (k := h * k * (- ib + (c : Int) + 1)) ?_)).symm
      rw [hk]
      grind
    · rw [if_neg ez]
      refine ⟨?_, hfp, hap, hrv⟩
      show (n.pc + 1) % (p : Int) = _
      rw [hpc, ee]
      rcases Pol.prime_mul hp (Int.dvd_of_emod_eq_zero hwk) with d | d
      · exact absurd (hs.trans (Int.emod_eq_zero_of_dvd d)) ez
      · obtain ⟨k, hk⟩ := d
        refine (em_eq (em_zero (k := k * (ib - ((c : Int) + 1))) ?_)).symm
        have hh : h * y0 = 1 - (p : Int) * k := by omega
        rw [hh]
        grind
  rw [if_neg e9]
  by_cases e10 : o = 10
  · rw [if_pos e10, if_pos (.inr e10), if_pos e10, if_pos e10, if_neg (by omega)]
    refine ⟨rfl, ?_, ?_, hrv⟩
    · show (n.ap + 2) % (p : Int) = _
      rw [hap, em_add1, ee]
    · show ((n.ap + 2) % (p : Int) + ib) % (p : Int) = _
      rw [hap, em_add1, Int.add_assoc, em_add1, ← Int.add_assoc, ee]
  rw [if_neg e10, if_neg (show ¬ (o = 8 ∨ o = 10) by omega), if_neg e9, if_neg e10, if_neg e10]
  by_cases e11 : o = 11
  · rw [if_pos e11, if_pos e11, if_pos e11, if_pos e11]
    exact ⟨(k1 e11).1, k0 (.inr (.inr e11)), hap, (k1 e11).2⟩
  rw [if_neg e11, if_neg e11, if_neg e11, if_neg e11]
  refine ⟨?_, hfp, hap, hrv⟩
  show (n.pc + 1) % (p : Int) = _
  rw [hpc]
end

section
variable {p : Nat} {L : List InsZ} {size out : Int} {rows : List (List Int)}
/-- behind a halt all rows stay -/
theorem NoB.stays (h : NoB p L size out rows) (hp : Num.Prime p) (h3 : 3 ≤ p) (hL : L.length ≤ p) {i c : Nat} (hc : RwZ p L (rat rows i) c) (hop : (insat L c).op = 0) : ∀ d, i + d < rows.length → RwZ p L (rat rows (i + d)) c ∧ zat (rat rows (i + d)) 0 % (p : Int) = zat (rat rows i) 0 % (p : Int)
  | 0, _ => ⟨hc, rfl⟩
  | d + 1, hd => by
    obtain ⟨h1, h2⟩ := NoB.stays h hp h3 hL hc hop d (by omega)
    obtain ⟨c', hc'⟩ := h.row hp h3 hL (i := i + (d + 1)) hd
    have hn := h.nxt (i := i + d) hd h1 hc'
    have e := em_eq hn.pc
    unfold tvN at e
    rw [if_pos hop, Int.emod_eq_of_lt (by omega) (by have := hc'.lt; omega), Int.emod_eq_of_lt (by omega) (by have := hc.lt; omega)] at e
    obtain rfl : c' = c := by omega
    refine ⟨hc', ?_⟩
    have e2 := hn.fp
    unfold tvF at e2
    rw [if_neg (by omega), if_neg (by omega)] at e2
    exact e2.trans h2
/-- rows' pairs -/
theorem row_pair {i k : Nat} (hi : i < rows.length) (hk : k < 4) : (zat (rat rows i) (3 + k) % (p : Int), zat (rat rows i) (7 + k) % (p : Int)) ∈ pr4 p rows 3 7 := pr4_mem.2 ⟨i, hi, k, hk, rfl⟩

theorem sound_go (h : NoB p L size out rows) (hp : Num.Prime p) (h3 : 3 ≤ p) (hL : L.length ≤ p) (h4n : 4 * rows.length ≤ p) (h0 : 0 < rows.length) (hal : (pr4 p rows 3 7).Perm (pr4 p rows 12 16)) :
    ∀ (f i k c : Nat) (n : Rg) (cs : List (Int × Int)) (done : List (List Int)), f + i = rows.length → i < rows.length → done.length = i → RwZ p L (rat rows i) c → n.pc = (c : Int) → n.fp = zat (rat rows i) 0 % (p : Int) → n.ap = zat (rat rows i) 1 % (p : Int) → n.rv = zat (rat rows i) 2 % (p : Int) → TolQ (pr4 p rows 3 7) cs → SOk p k 0 (freshM cs n) → RgB p n → Zer cs →
      mgo p L (rows.length - 1) f (freshM cs n) done = .bad 10 ∨ ∃ l cs', mgo p L (rows.length - 1) f (freshM cs n) done = .good l cs' ∧ outS l = out % (p : Int)
  | 0, i, _, _, _, _, _, hf, hi, _, _, _, _, _, _, _, _, _, _ => by omega
  | f + 1, i, k, c, n, cs, done, hf, hi, hdl, hc, hpc, hfp, hap, hrv, hT, hs, hr, hz => by
    have hfn : FnQ (pr4 p rows 3 7) := (h.fn hp h3 h4n h0 hal).1
    have hpcn : (freshM cs n).pc.toNat = c := by show n.pc.toNat = c; rw [hpc]; omega
    rw [mgo, hpcn]
    have hcl := hc.lt
    rw [if_neg (show ¬ (L.length : Int) ≤ (freshM cs n).pc by show ¬ (L.length : Int) ≤ n.pc; rw [hpc]; omega)]
    have hlast : i = rows.length - 1 → (insat L c).op = 0 := fun e => by
      have := h.last h0 24 (by omega) (by omega)
      rw [← e] at this
      have e2 : (smt p L (rat rows i) (fun _ => tvH) - 1) % (p : Int) = 0 := this
      rw [smt_oneM hc.lt hc.hot, em_sub1] at e2
      unfold tvH at e2
      by_cases hop : (insat L c).op = 0
      · exact hop
      · rw [if_neg hop] at e2
        have := em_eq e2
        rw [Int.zero_emod, em_one h3] at this
        exact absurd this (by decide)
    rw [if_neg (show ¬ (done.length = rows.length - 1 ∧ (insat L c).op ≠ 0) from fun ⟨e1, e2⟩ => e2 (hlast (by omega)))]
    have hso := step_ok h3 hs hr (insat L c).op (insat L c).a (insat L c).b (insat L c).c
    have hcb : CsB p cs := fun j hj => hs.1 j hj
    obtain ⟨he, hnow⟩ := step_is (a := (insat L c).a) (b := (insat L c).b) (c := (insat L c).c) (n := n) (insat L c).op h3 hz hr (csB_cvl h3 hcb)
    have hx : ∀ j, cel3 p (insat L c).op (insat L c).a (insat L c).b (insat L c).c n.fp n.ap j = tvC p (rat rows i) j (insat L c) := fun j => by
      rw [hfp, hap, cel3_red]; rfl
    have hxm : ∀ j, tvC p (rat rows i) j (insat L c) % (p : Int) = tvC p (rat rows i) j (insat L c) := fun j => by
      have := cel3_bd h3 (insat L c).op (insat L c).a (insat L c).b (insat L c).c (zat (rat rows i) 0) (zat (rat rows i) 1) j
      exact Int.emod_eq_of_lt this.1 this.2
    have q0 : (cel3 p (insat L c).op (insat L c).a (insat L c).b (insat L c).c n.fp n.ap 0, zat (rat rows i) 7 % (p : Int)) ∈ pr4 p rows 3 7 := by
      rw [hx, ← hxm, ← hc.a0]; exact row_pair hi (show 0 < 4 by omega)
    have q1 : (cel3 p (insat L c).op (insat L c).a (insat L c).b (insat L c).c n.fp n.ap 1, zat (rat rows i) 8 % (p : Int)) ∈ pr4 p rows 3 7 := by
      rw [hx, ← hxm, ← hc.a1]; exact row_pair hi (show 1 < 4 by omega)
    have q2 : (cel3 p (insat L c).op (insat L c).a (insat L c).b (insat L c).c n.fp n.ap 2, zat (rat rows i) 9 % (p : Int)) ∈ pr4 p rows 3 7 := by
      rw [hx, ← hxm, ← hc.a2]; exact row_pair hi (show 2 < 4 by omega)
    rcases sim_wrk hp h3 hc hpc hfp hrv hT hfn q0 q1 q2 with hw | ⟨hw, hT2, k0, k1⟩
    · rw [he, hw, if_pos (by decide)]
      exact .inl rfl
    · obtain ⟨hcs, hnw, hnx⟩ := hnow hw
      rw [he, hw, if_neg (by decide)]
      have hzz : Zer ((freshM cs n).step p (insat L c).op (insat L c).a (insat L c).b (insat L c).c).1.cs := by
        rw [hcs]
        exact wrk_zer hz hw
      by_cases hop : (insat L c).op = 0
      · rw [if_pos hop]
        refine .inr ⟨_, _, rfl, ?_⟩
        have e : outS (done ++ [((freshM cs n).step p (insat L c).op (insat L c).a (insat L c).b (insat L c).c).1.now]) = zat ((freshM cs n).step p (insat L c).op (insat L c).a (insat L c).b (insat L c).c).1.now 7 := by
          unfold outS
          rw [List.length_append, List.length_singleton, Nat.add_sub_cancel, rat_end]
        rw [e, hnw]
        show cvl _ _ = _
        rw [k0 (.inl hop)]
        -- the last row has the same
        obtain ⟨d, hd⟩ : ∃ d, i + d = rows.length - 1 := ⟨rows.length - 1 - i, by omega⟩
        obtain ⟨hcd, hfd⟩ := h.stays hp h3 hL hc hop d (by omega)
        have hv : zat (rat rows (i + d)) 7 % (p : Int) = out % (p : Int) := by
          rw [hd]
          have : (zat (rat rows (rows.length - 1)) 7 - out) % (p : Int) = 0 := h.last h0 25 (by omega) (by omega)
          exact em_eq this
        rw [← hv]
        have m0 : (cel3 p (insat L c).op (insat L c).a (insat L c).b (insat L c).c n.fp n.ap 0, zat (rat rows (i + d)) 7 % (p : Int)) ∈ pr4 p rows 3 7 := by
          have e0 : cel3 p (insat L c).op (insat L c).a (insat L c).b (insat L c).c n.fp n.ap 0 = tvC p (rat rows (i + d)) 0 (insat L c) := by
            rw [hfp, ← hfd, hop]
            unfold tvC
            rw [hop]
            unfold cel3
            simp
          rw [e0]
          have := cel3_bd h3 (insat L c).op (insat L c).a (insat L c).b (insat L c).c (zat (rat rows (i + d)) 0) (zat (rat rows (i + d)) 1) 0
          rw [← Int.emod_eq_of_lt (show 0 ≤ tvC p (rat rows (i + d)) 0 (insat L c) from this.1) (show tvC p (rat rows (i + d)) 0 (insat L c) < (p : Int) from this.2), ← hcd.a0]
          exact row_pair (show i + d < rows.length by omega) (show 0 < 4 by omega)
        exact hfn _ _ q0 m0 rfl
      · rw [if_neg hop]
        have hi1 : i + 1 < rows.length := by
          rcases Nat.lt_or_ge (i + 1) rows.length with g | g
          · exact g
          · exact absurd (hlast (by omega)) hop
        obtain ⟨c', hc'⟩ := h.row hp h3 hL hi1
        have hn := h.nxt hi1 hc hc'
        obtain ⟨n1, n2, n3, n4⟩ := sim_next hp hL hc hc' hn hpc hfp hap hrv k0 k1 hop
        rw [← hnx] at n1 n2 n3 n4
        rw [← hcs] at hT2
        exact sound_go h hp h3 hL h4n h0 hal f (i + 1) (k + 2) c' _ _ _ (by omega) hi1 (by simp [hdl]) hc' n1 n2 n3 n4 hT2 ⟨hso.1.1, hso.1.2.1, fun _ => Nat.le_refl _⟩ hso.2 hzz
/-- WHAT BREAKS NO RULE IS A RUN -/
theorem sound_plain (h : NoB p L size out rows) (hp : Num.Prime p) (h3 : 3 ≤ p) (hL : L.length ≤ p) (h4n : 4 * rows.length ≤ p) (h0 : 0 < rows.length) (hal : (pr4 p rows 3 7).Perm (pr4 p rows 12 16)) :
    mwalk p size L (rows.length - 1) = .bad 10 ∨ ∃ l cs', mwalk p size L (rows.length - 1) = .good l cs' ∧ outS l = out % (p : Int) := by
  obtain ⟨c, hc⟩ := h.row hp h3 hL h0
  have hfn := h.fn hp h3 h4n h0 hal
  have f18 : (zat (rat rows 0) 20 - 1) % (p : Int) = 0 := h.first h0 18 (by omega) (by omega)
  have f19 : (zat (rat rows 0) 0 - 1) % (p : Int) = 0 := h.first h0 19 (by omega) (by omega)
  have f20 : (zat (rat rows 0) 1 - 1 - size) % (p : Int) = 0 := h.first h0 20 (by omega) (by omega)
  have f21 : zat (rat rows 0) 2 % (p : Int) = 0 := h.first h0 21 (by omega) (by omega)
  have hc0 : c = 0 := by
    have hL0 : 0 < L.length := Nat.lt_of_le_of_lt (Nat.zero_le _) hc.lt
    have e := hc.hot 0 hL0
    unfold sel at e
    rw [em_eq f18, em_one h3] at e
    by_cases g : 0 = c
    · exact g.symm
    · rw [if_neg g] at e; exact absurd e (by decide)
  subst hc0
  unfold mwalk
  rw [show rows.length - 1 + 1 = rows.length by omega]
  refine sound_go h hp h3 hL h4n h0 hal rows.length 0 1 0 _ _ [] (by omega) h0 rfl hc rfl ?_ ?_ f21.symm ?_ ⟨fun j hj => ?_, Nat.le_refl _, fun _ => Nat.le_refl _⟩ ⟨⟨Int.le_refl _, by show (0 : Int) < p; omega⟩, ⟨by show (0 : Int) ≤ 1; omega, by show (1 : Int) < p; omega⟩, emod_bounds _ p h3, ⟨Int.le_refl _, by show (0 : Int) < p; omega⟩⟩ zer_first
  · show (1 : Int) = _
    rw [em_eq f19, em_one h3]
  · show (1 + size) % (p : Int) = _
    rw [show zat (rat rows 0) 1 - 1 - size = zat (rat rows 0) 1 - (1 + size) by omega] at f20
    exact (em_eq f20).symm
  · intro u hu
    have : u = 0 := by
      rcases finz_cases [(0, 0)] u with e | ⟨i, _, hi, he⟩
      · omega
      · have : i = 0 := by simpa using hi
        subst this
        simpa [cat] using he.symm
    subst this
    exact hfn.2
  · have : j = 0 := by simpa [freshM] using hj
    subst this
    show 0 ≤ (0 : Int) ∧ (0 : Int) < p
    omega
end

end Go.Proofs.YtdpdmgmeieijaaaGreatDoor

namespace Go.Proofs.YtdpdmgmeieijaaaGreatDoor
open Go.RowKit Go.Maps

theorem neEr (T : TypeId) (v : Value) (w : World) : (binOp BinOp.neq 38 (.iface T v) .nilIface).run Tryz.prog w = .ok (.bool true) w := by kernel_rfl
theorem neNr (w : World) : (binOp BinOp.neq 38 .nilIface .nilIface).run Tryz.prog w = .ok (.bool false) w := by kernel_rfl

theorem Tbl.mono {base base' G : Nat} {K : Nat → Nat} {w : World} {R : List (List Int)} (h : Tbl base G K w R) (e : base' ≤ base) : Tbl base' G K w R :=
  ⟨h.lt, h.out, h.row, h.inj, ⟨Nat.le_trans e h.new.1, fun k hk => ⟨Nat.le_trans e (h.new.2 k hk).1, (h.new.2 k hk).2⟩⟩, h.soft⟩

set_option maxRecDepth 100000 in
set_option maxHeartbeats 4000000 in
theorem ptable_yes (p b : Nat) (size n : Int) (aL : Option Addr) (cL : Nat) (L : List InsZ) (w : World) (h3 : 3 ≤ p) (h4 : p ≤ 2147483647) (hpr : Num.Prime p) (hp : w.cell? ⟨b, 0, none⟩ = some (.int .i64 p)) (hL : LstI w.heap.size w aL cL L) (hIB : InsB L) (hyes : ¬ (n < 1 ∨ 512 < n ∨ 64 < L.length)) :
    Calls Tryz.prog 12 #[.pointer (some ⟨b, 0, none⟩), .agg #[.int .i64 size, .slice aL L.length cL], .int .i64 n] w (PtR p size L n w) := by
  have hmx : Tryz.prog.follows .mixedOrders = true := by kernel_rfl
  obtain ⟨m, rfl⟩ := Int.eq_ofNat_of_zero_le (show 0 ≤ n by omega)
  have hm1 : 1 ≤ m := by omega
  have hm2 : m ≤ 512 := by omega
  have hL64 : L.length ≤ 64 := by omega
  obtain ⟨W0, hW0⟩ : ∃ W0, W0 = w.alloc (.cells #[.int .i64 size, .slice aL L.length cL] 24) := ⟨_, rfl⟩
  have hb0 : Below w.heap.size w W0 := by rw [hW0]; exact (Below.refl _ _).alloc (Nat.le_refl _) _
  have hz : W0.heap.size = w.heap.size + 1 := by rw [hW0]; simp
  have hs0 : W0.heap[w.heap.size]? = some (.cells #[.int .i64 size, .slice aL L.length cL] 24 (0, 0)) := by rw [hW0]; exact heap_alloc_new w _
  have hcode : ∀ W, Below W0.heap.size W0 W → W.cell? ⟨w.heap.size, 0, none⟩ = some (.int .i64 size) ∧ W.cell? ⟨w.heap.size, 1, none⟩ = some (.slice aL L.length cL) := fun W h => by
    have := (h.block w.heap.size (by omega)).trans hs0
    exact ⟨by simp [World.cell?, this], by simp [World.cell?, this]⟩
  have hpW : ∀ W, Below W0.heap.size W0 W → W.cell? ⟨b, 0, none⟩ = some (.int .i64 p) := fun W h => ((hb0.trans (h.mono hb0.size)).cell (p := ⟨b, 0, none⟩) (World.block_lt_of_cell? _ _ hp)).trans hp
  have hLW : ∀ W, Below W0.heap.size W0 W → LstI W.heap.size W aL cL L := fun W h => (hL.below (hb0.trans (h.mono hb0.size))).mono (hb0.trans (h.mono hb0.size)).size
  have HB0 := hid hb0
  have HPW := hid hpW
  have HLW := hid hLW
  have HCO := hid hcode
  have HWK := hid (pwalk_any p b size ((m : Int) - 1) aL cL L W0 h3 h4 hpr (hpW W0 (Below.refl _ _)) (by omega) (hLW W0 (Below.refl _ _)) hIB)
  obtain ⟨k0, k1⟩ := hcode W0 (Below.refl _ _)
  obtain ⟨nL, hnl⟩ : ∃ nL, nL = L.length := ⟨_, rfl⟩
  have HNL := hid hnl
  have HY := hid hyes
  rw [← hnl] at hW0 k1 hL64 ⊢
  rw [← hnl] at HWK HCO
  have t1 : ¬ (m : Int) < 1 := by omega
  have t2 : ¬ (512 : Int) < (m : Int) := by omega
  have t3 : ¬ (64 : Int) < (nL : Int) := by omega
  have wm : IntKind.i64.wrap ((m : Int) - 1) = (m : Int) - 1 := by rw [IntKind.wrap_i64]; omega
  clear hb0 hs0 hcode hpW hLW hnl hyes hL hp hz
  go_enter Tryz.func12, Tryz.ntmps12
  go_wp2_with fail
  rw [← hW0]
  clear hW0
  go_wp2_with fail
  refine HWK.out.mono ?_
  rintro e w1 hwl
  obtain ⟨hb1, hwl⟩ := hwl
  have HB1 := hid hb1
  have hcase : (∃ z, z ≠ 0 ∧ e = .returned (.tuple #[.slice none 0 0, .iface 68 (.int .i64 z)]) ∧ ∀ e' w', Below w.heap.size w w' → e' = .returned (.tuple #[.slice none 0 0, .int .i64 0, .iface 68 (.int .i64 z)]) → PtR p size L (m : Int) w e' w') ∨
      (∃ st v, e = .returned (.tuple #[v, .nilIface]) ∧ StR W0.heap.size w1 v st ∧ (∀ s, s ∈ st → StB p L.length s) ∧ 0 < st.length ∧ ∀ e' w', Below w.heap.size w w' → (if m < (tho p L st m).length then e' = .returned (.tuple #[.slice none 0 0, .int .i64 0, errV 9]) else ∃ T G K, TabG p L st m T ∧ e' = .returned (.tuple #[.slice (some ⟨G, 0, none⟩) T.length T.length, .int .i64 (outS st), .nilIface]) ∧ Tbl w.heap.size G K w' T) → PtR p size L (m : Int) w e' w') := by
    by_cases hz : fz6 (p : Int) size L.length ((m : Int) - 1) ≠ 0
    · rw [if_pos hz, errV_nz hz] at hwl
      refine .inl ⟨_, hz, hwl, fun e' w' h1 h2 => ⟨h1, ?_⟩⟩
      rw [if_neg HY.out, if_pos hz, errV_nz hz]
      exact h2
    · rw [if_neg hz] at hwl
      cases hX : mwalk p size L ((m : Int) - 1).toNat with
      | bad z =>
        rw [hX] at hwl
        have hz0 := mgo_bad _ _ _ _ _ _ _ hX
        refine .inl ⟨z, hz0, by rw [← errV_nz hz0]; exact hwl, fun e' w' h1 h2 => ⟨h1, ?_⟩⟩
        rw [if_neg HY.out, if_neg hz, hX]
        show e' = _
        rw [errV_nz hz0]
        exact h2
      | good st cs =>
        rw [hX] at hwl
        obtain ⟨v, h5, h6⟩ := hwl
        obtain ⟨h7, h8⟩ := mwalk_steps h3 hX
        refine .inr ⟨st, v, h5, h6, h7, h8, fun e' w' h1 h2 => ⟨h1, ?_⟩⟩
        rw [if_neg HY.out, if_neg hz, hX]
        show if (m : Int).toNat < _ then _ else _
        rw [Int.toNat_natCast]
        exact h2
  clear hwl HWK
  rcases hcase with ⟨z, hz, rfl, hR⟩ | ⟨st, v, rfl, hst, hsb, hs0, hR⟩
  · have HR := hid hR
    have HBW := hid (HB0.out.trans (hb1.mono HB0.out.size))
    have hne := fun W => neEr 68 (.int .i64 z) W
    clear hR hb1 HB1
    go_wp2_with fail
    go_ret3
    exact HR.out _ _ HBW.out rfl
  · obtain ⟨g, cap, rfl, hsm, hgl, hcel⟩ := hst.at hs0 (fun s h => (hsb s h).1)
    have HSH := hid (pshown_any p b cL g cap m size aL L st w1 hpr h3 h4 (HPW.out w1 hb1) (by have := HNL.out; omega) (HLW.out w1 hb1) hsb hs0 hsm hcel hm1 hm2)
    rw [← HNL.out] at HSH
    obtain ⟨c0, c1⟩ := HCO.out w1 hb1
    have HR := hid hR
    have HSB := hid hsb
    have HCEL := hid hcel
    obtain ⟨ns, hns⟩ : ∃ ns, ns = st.length := ⟨_, rfl⟩
    have HNS := hid hns
    rw [← hns] at HSH hs0 hsm ⊢
    have hne := fun W => neNr W
    clear hst hR hb1 hsb hcel hns
    go_wp2_with fail
    refine HSH.out.mono ?_
    rintro e w2 ⟨G, K, rfl, hT2, hb2⟩
    have hwp : ∀ x, x ∈ allc (shns p L st m) → 0 ≤ x ∧ x ≤ 2147483647 := fun x hx => by have := allc_shns h3 HSB.out (by have := HNS.out; omega) hx; omega
    have hlens : ∀ k, k < (shns p L st m).length → 20 ≤ (rat (shns p L st m) k).length ∧ (rat (shns p L st m) k).length ≤ 100000 := fun k hk => by
      rw [shns_len] at hk
      rw [shns_rat _ _ _ hk, shn_len]
      have := HNL.out
      omega
    have HFH := hid (pholes_any w1.heap.size G K (shns p L st m) w2 (by rw [shns_len]; omega) hlens hb2.size hT2 hwp)
    rw [shns_len] at HFH
    have HB2 := hid (HB1.out.trans (hb2.mono HB1.out.size))
    have HLE := hid hlens
    have HB12 := hid hb2
    clear HSH c0 c1 hT2 hb2 hwp hlens
    go_wp2_with fail
    refine HFH.out.mono ?_
    rintro e w3 ⟨hb3, hcs⟩
    have HB13 := hid (HB12.out.trans (hb3.mono (Nat.le_refl _)))
    have HB3 := hid (HB0.out.trans ((HB1.out.trans (HB13.out.mono HB1.out.size)).mono HB0.out.size))
    rcases hcs with ⟨hful, rfl⟩ | ⟨hfit, rfl, hT3⟩
    · have HFUL : Hid (m < (tho p L st m).length) := hful
      clear hful hb3 HFH
      go_wp2_with fail
      go_ret3
      exact HR.out _ _ HB3.out (by rw [if_pos HFUL.out]; rfl)
    · have HFIT : Hid (¬ m < (tho p L st m).length) := Nat.not_lt.2 hfit
      have HFI2 : Hid ((tho p L st m).length ≤ m) := hfit
      have hT3' : Tbl w1.heap.size G K w3 (fillH (shns p L st m) (tho p L st m)) := hT3
      have HFS := hid (psorted_any p b w1.heap.size G K (fillH (shns p L st m) (tho p L st m)) w3 h3 h4 (HPW.out w3 (HB1.out.trans (HB13.out.mono HB1.out.size))) (by rw [fillH_len, shns_len]; omega) (fun k hk => by
        rw [fillH_len] at hk
        rw [fillH_row_len hk]
        exact HLE.out k hk) (fits_tab h3 h4 (by have := HNL.out; omega) HSB.out (by have := HNS.out; omega)) HB13.out.size hT3')
      rw [fillH_len, shns_len] at HFS
      clear hb3 HFH hT3 hT3' hfit
      go_wp2_with fail
      refine HFS.out.mono ?_
      rintro e w4 ⟨ps, rfl, hso, hT4, hb4⟩
      have hB14 := HB13.out.trans (hb4.mono (Nat.le_refl _))
      have HB4 := hid (HB0.out.trans ((HB1.out.trans (hB14.mono HB1.out.size)).mono HB0.out.size))
      have HTT : Hid (TabG p L st m (fS (fillH (shns p L st m) (tho p L st m)) ps (4 * m))) := ⟨HFI2.out, ps, hso, rfl⟩
      have HT4 := hid (hT4.mono (Nat.le_trans HB0.out.size HB1.out.size))
      obtain ⟨k, hk⟩ : ∃ k, k = ns - 1 := ⟨_, rfl⟩
      have e1 : (ns : Int) - 1 = (k : Int) := by omega
      have w1' : IntKind.i64.wrap (k : Int) = (k : Int) := by unfold maxLen at hsm; rw [IntKind.wrap_i64]; omega
      have lk : (k : Int) < (ns : Int) := by omega
      have cv : w4.cell? ⟨g, k * 10 + 7, none⟩ = some (.int .i64 (outS st)) := by
        have := HCEL.out k 7 (by have := HNS.out; omega) (by omega)
        rw [show outS st = zat (rat st k) 7 by unfold outS; rw [hk, HNS.out]]
        exact (hB14.cell (p := ⟨g, k * 10 + 7, none⟩) hgl).trans this
      have HEND : Hid (∀ w', w'.heap = w4.heap → Below w.heap.size w w' → PtR p size L (m : Int) w (.returned (.tuple #[.slice (some ⟨G, 0, none⟩) m m, .int .i64 (outS st), .nilIface])) w') := fun w' hh hb => by
        refine HR.out _ _ hb ?_
        rw [if_neg HFIT.out]
        refine ⟨_, G, K, HTT.out, by rw [HTT.out.len], HT4.out.keep (by rw [hh]) (fun _ _ => by rw [hh])⟩
      clear hk hso hT4 hb4 hB14 HFS HB12 HB13 HLE
      generalize outS st = ov at *
      go_wp2_with fail
      go_region
      go_wp2_with fail
      go_ret3
      exact HEND.out w4.drew rfl HB4.out.drew

theorem ptable_any (p b : Nat) (size n : Int) (aL : Option Addr) (cL : Nat) (L : List InsZ) (w : World) (h3 : 3 ≤ p) (h4 : p ≤ 2147483647) (hpr : Num.Prime p) (hp : w.cell? ⟨b, 0, none⟩ = some (.int .i64 p)) (hnL : L.length ≤ 281474976710656) (hL : LstI w.heap.size w aL cL L) (hIB : InsB L) :
    Calls Tryz.prog 12 #[.pointer (some ⟨b, 0, none⟩), .agg #[.int .i64 size, .slice aL L.length cL], .int .i64 n] w (PtR p size L n w) := by
  by_cases h : n < 1 ∨ 512 < n ∨ 64 < L.length
  · exact ptable_size p b size n aL cL L w hnL h
  · exact ptable_yes p b size n aL cL L w h3 h4 hpr hp hL hIB h

end Go.Proofs.YtdpdmgmeieijaaaGreatDoor

namespace Go.Proofs.YtdpdmgmeieijaaaGreatDoor
open Go.RowKit Go.Maps

/-- the slices of a table's rows -/
def slcs (K : Nat → Nat) (m i : Nat) : List Value := (List.range i).map fun k => .slice (some ⟨K k, 0, none⟩) m m
/-- one block more -/
def kup (K : Nat → Nat) (i Kn k : Nat) : Nat := if k = i then Kn else K k
theorem slcs_more (K : Nat → Nat) (m i Kn : Nat) : slcs (kup K i Kn) m (i + 1) = slcs K m i ++ [.slice (some ⟨Kn, 0, none⟩) m m] := by
  unfold slcs
  rw [List.range_succ, List.map_append]
  congr 1
  · apply List.map_congr_left
    intro k hk
    rw [List.mem_range] at hk
    rw [kup, if_neg (by omega)]
  · simp [kup]
/-- how far the reference's Table has come with its rows -/
structure RtI (base m i : Nat) (R : List (List Int)) (v : Value) (w1 wr : World) : Prop where
  rows : ∃ K : Nat → Nat, wr.ownsRow base 49 1 v i (slcs K m i) ∧ (∀ k, k < i → IRow (K k) wr (rat R k)) ∧ (∀ j k, j < i → k < i → K j = K k → j = k) ∧ ∀ k, k < i → base ≤ K k ∧ some (K k) ≠ v.ownBlock
  bel : Below base w1 wr
theorem RtI.first {base m : Nat} {R : List (List Int)} {w1 : World} : RtI base m 0 R (.slice none 0 0) w1 w1 :=
  ⟨⟨fun _ => 0, World.ownsRow_nil _ _ _ _, fun _ hk => absurd hk (Nat.not_lt_zero _), fun _ _ hj => absurd hj (Nat.not_lt_zero _), fun _ hk => absurd hk (Nat.not_lt_zero _)⟩, Below.refl _ _⟩
/-- a row more: X the world with the row, Y that with the slice to be appended, Z behind it -/
theorem RtI.more {base m i Kn : Nat} {R : List (List Int)} {v v' : Value} {w1 wr X Y Z : World} (h : RtI base m i R v w1 wr) (hbs : base ≤ wr.heap.size) (hX : Below wr.heap.size wr X) (hr : IRow Kn X (rat R i)) (hK : wr.heap.size ≤ Kn) (hY : Below X.heap.size X Y)
    (K : Nat → Nat) (hk1 : ∀ k, k < i → IRow (K k) wr (rat R k)) (hk2 : ∀ j k, j < i → k < i → K j = K k → j = k) (hk3 : ∀ k, k < i → base ≤ K k ∧ some (K k) ≠ v.ownBlock) (hlt : ∀ b, v.ownBlock = some b → base ≤ b ∧ b < wr.heap.size)
    (hZ : Z.ownsRow base 49 1 v' (i + 1) (slcs K m i ++ [.slice (some ⟨Kn, 0, none⟩) m m])) (hg : Y.grownBy Z v.ownBlock) (hw : v'.ownBlock = v.ownBlock ∨ v'.ownBlock = some Y.heap.size) : RtI base m (i + 1) R v' w1 Z := by
  have hXY : Below wr.heap.size wr Y := hX.trans (hY.mono hX.size)
  have hnb : some Kn ≠ v.ownBlock := fun e => by have := (hlt Kn e.symm).2; omega
  refine ⟨⟨kup K i Kn, by rw [slcs_more]; exact hZ, fun k hk => ?_, fun j k hj hk e => ?_, fun k hk => ?_⟩, ?_⟩
  · unfold kup
    by_cases e : k = i
    · subst e
      rw [if_pos rfl]
      exact (hr.block (hY.block Kn hr.lt)).block (hg.block Kn (Nat.lt_of_lt_of_le hr.lt hY.size) hnb)
    · rw [if_neg e]
      have h1 := hk1 k (by omega)
      exact (h1.block (hXY.block _ h1.lt)).block (hg.block _ (Nat.lt_of_lt_of_le h1.lt hXY.size) (hk3 k (by omega)).2)
  · unfold kup at e
    by_cases e1 : j = i
    · by_cases e2 : k = i
      · omega
      · rw [if_pos e1, if_neg e2] at e; have := (hk1 k (by omega)).lt; omega
    · by_cases e2 : k = i
      · rw [if_neg e1, if_pos e2] at e; have := (hk1 j (by omega)).lt; omega
      · rw [if_neg e1, if_neg e2] at e; exact hk2 j k (by omega) (by omega) e
  · unfold kup
    by_cases e : k = i
    · rw [if_pos e]
      refine ⟨by omega, fun e2 => ?_⟩
      rcases hw with h2 | h2
      · rw [h2] at e2; exact hnb e2
      · rw [h2] at e2; injection e2 with e2; have := hr.lt; have := hY.size; omega
    · rw [if_neg e]
      refine ⟨(hk3 k (by omega)).1, fun e2 => ?_⟩
      rcases hw with h2 | h2
      · rw [h2] at e2; exact (hk3 k (by omega)).2 e2
      · rw [h2] at e2; injection e2 with e2; have := (hk1 k (by omega)).lt; have := hXY.size; omega
  · exact (h.bel.trans (hXY.mono hbs)).grown hg (Nat.le_trans hbs hXY.size) (fun b hb => (hlt b hb).1)
/-- all rows are there: a table -/
theorem RtI.tbl {base m n : Nat} {R : List (List Int)} {v : Value} {w1 wr : World} (h : RtI base m n R v w1 wr) (hn : 0 < n) (hR : R.length = n) (hm : ∀ k, k < n → (rat R k).length = m) : ∃ G K cap, v = .slice (some ⟨G, 0, none⟩) n cap ∧ n ≤ cap ∧ Tbl base G K wr R := by
  obtain ⟨K, ho, h1, h2, h3⟩ := h.rows
  have ho' := ho
  rcases ho.2 with ⟨_, e⟩ | ⟨G, cap, cur, rfl, hb, hg, hc, _⟩
  · omega
  · refine ⟨G, K, cap, rfl, hc, (Array.getElem?_eq_some_iff.1 hg).1, fun k hk => ?_, fun k hk => h1 k (by omega), fun j k hj hk => h2 j k (by omega) (by omega), ⟨hb, fun k hk => ⟨(h3 k (by omega)).1, fun e => (h3 k (by omega)).2 (by rw [e]; rfl)⟩⟩, fun j => by simp [World.frozen?, hg]⟩
    have hx : (slcs K m n)[k]? = some (.slice (some ⟨K k, 0, none⟩) m m) := by unfold slcs; simp [show k < n by omega]
    have := World.ownsRow.cells ho' (g := G) rfl k _ hx
    have hadd : (⟨G, 0, none⟩ : Addr).add k = ⟨G, 0 + k, none⟩ := by unfold Addr.add; split <;> simp_all
    rw [hadd, Nat.zero_add] at this
    rw [hm k (by omega)]
    exact this

end Go.Proofs.YtdpdmgmeieijaaaGreatDoor
