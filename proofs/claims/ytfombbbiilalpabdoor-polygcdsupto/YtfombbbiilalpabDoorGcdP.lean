/- Plain facts on the search for the greatest that divides both: what its rounds keep, and what stands at its end. -/
import Derived.Test.YtfombbbiilalpabDoorPolDiv
namespace Go.Proofs.YtfombbbiilalpabDoor
open Go.RowKit Pol

/-- e divides x -/
def Dv (p : Nat) (e x : S) : Prop := ∃ k : List Int, Eqp p (mul (cf k) e) x

theorem Dv.congr {p : Nat} {e x y : S} (h : Dv p e x) (hxy : Eqp p x y) : Dv p e y := by
  obtain ⟨k, hk⟩ := h; exact ⟨k, hk.trans hxy⟩

/-- what the rounds keep -/
structure GI (p : Nat) (A B : List Int) (M : Nat) (hs hu hv ns nu nv : List Int) : Prop where
  chs : Pol.Can p hs
  chu : Pol.Can p hu
  chv : Pol.Can p hv
  cns : Pol.Can p ns
  cnu : Pol.Can p nu
  cnv : Pol.Can p nv
  eh : Eqp p (cf hs) (add (mul (cf hu) (cf A)) (mul (cf hv) (cf B)))
  en : Eqp p (cf ns) (add (mul (cf nu) (cf A)) (mul (cf nv) (cf B)))
  dv : ∀ e : S, Dv p e (cf hs) → Dv p e (cf ns) → Dv p e (cf A) ∧ Dv p e (cf B)
  b1 : nu.length + hs.length ≤ M
  b2 : hu.length + ns.length ≤ M
  b3 : nv.length + hs.length ≤ M
  b4 : hv.length + ns.length ≤ M

theorem one_can {p : Nat} (h3 : 3 ≤ p) : Pol.Can p [1] := ⟨fun j hj => by simp at hj; subst hj; simp; omega, fun _ => by simp⟩

theorem GI.start {p : Nat} (h3 : 3 ≤ p) (A B : List Int) : GI p A B (A.length + B.length + 1) (trim p A) [1] [] (trim p B) [] [1] := by
  have la := trim_le p A
  have lb := trim_le p B
  refine ⟨trim_can (by omega) A, one_can h3, Pol.Can.nil p, trim_can (by omega) B, Pol.Can.nil p, one_can h3, ?_, ?_, fun e h1 h2 => ⟨h1.congr (trim_eqp p A), h2.congr (trim_eqp p B)⟩, ?_, ?_, ?_, ?_⟩
  · rw [cf_one, cf_nil, one_mul, zero_mul]
    refine (trim_eqp p A).trans (Eqp.of_eq ?_)
    funext j; simp [add, zero]
  · rw [cf_one, cf_nil, one_mul, zero_mul]
    refine (trim_eqp p B).trans (Eqp.of_eq ?_)
    funext j; simp [add, zero]
  all_goals simp
  all_goals omega

theorem left_len {p : Nat} (hu q nu : List Int) (M n h : Nat) (hq : q.length ≤ h + 1 - n) (b1 : nu.length + h ≤ M) (b2 : hu.length + n ≤ M) : (psub p hu (pmul p q nu)).length + n ≤ M := by
  have l1 := psub_le p hu (pmul p q nu)
  by_cases hz : q.length = 0
  · rw [pmul_nil q nu (Or.inl hz)] at l1 ⊢
    simp at l1
    omega
  · have l2 := pmul_le p q nu
    omega

theorem GI.step {p : Nat} (h3 : 3 ≤ p) {A B : List Int} {M : Nat} {hs hu hv ns nu nv q r : List Int} (h : GI p A B M hs hu hv ns nu nv) (hd : IsD p hs ns q r) (hq : q.length ≤ hs.length + 1 - ns.length) (hr : r.length ≤ hs.length) :
    GI p A B M ns nu nv r (psub p hu (pmul p q nu)) (psub p hv (pmul p q nv)) := by
  refine ⟨h.cns, h.cnu, h.cnv, hd.cr, psub_can h3 _ _, psub_can h3 _ _, h.en, ?_, fun e h1 h2 => ?_, left_len hu q nu M ns.length hs.length hq h.b1 h.b2, ?_, left_len hv q nv M ns.length hs.length hq h.b3 h.b4, ?_⟩
  · -- what is left is the one less so many times the other
    have e1 : Eqp p (cf r) (sub (cf hs) (mul (cf q) (cf ns))) := by
      have := (hd.eq.symm.sub (Eqp.refl p (mul (cf q) (cf ns))))
      refine Eqp.trans (Eqp.of_eq ?_) this
      funext j; simp only [sub, add]; omega
    refine e1.trans ?_
    have e2 := psub_eqp p hu (pmul p q nu)
    have e3 := psub_eqp p hv (pmul p q nv)
    have e4 := e2.trans ((Eqp.refl p (cf hu)).sub (pmul_eqp p q nu))
    have e5 := e3.trans ((Eqp.refl p (cf hv)).sub (pmul_eqp p q nv))
    refine ((h.eh.sub ((Eqp.refl p (cf q)).mul h.en)).trans (Eqp.of_eq ?_)).trans ((e4.mul_left (cf A)).add (e5.mul_left (cf B))).symm
    rw [sub_mul, sub_mul, mul_add, mul_assoc, mul_assoc]
    funext j; simp only [sub, add]; omega
  · obtain ⟨k1, hk1⟩ := h1
    obtain ⟨k2, hk2⟩ := h2
    refine h.dv e ⟨padd p (pmul p q k1) k2, ?_⟩ ⟨k1, hk1⟩
    refine (((padd_eqp p (pmul p q k1) k2).trans ((pmul_eqp p q k1).add (Eqp.refl p (cf k2)))).mul_left e).trans ?_
    rw [add_mul, mul_assoc]
    exact (((Eqp.refl p (cf q)).mul hk1).add hk2).trans hd.eq.symm
  · have := h.b1; omega
  · have := h.b3; omega

/-- at the end: nothing is found where both are zero -/
theorem GI.none {p : Nat} {A B : List Int} {M : Nat} {hs hu hv nu nv : List Int} (h : GI p A B M hs hu hv [] nu nv) (h0 : hs.length = 0) : (trim p A).length = 0 ∧ (trim p B).length = 0 := by
  have hs0 := List.length_eq_zero_iff.1 h0
  subst hs0
  have hd : Dv p zero (cf []) := ⟨[], Eqp.of_eq (by rw [cf_nil, zero_mul])⟩
  obtain ⟨⟨k1, e1⟩, ⟨k2, e2⟩⟩ := h.dv zero hd hd
  have z : ∀ (k : List Int) (X : List Int), Eqp p (mul (cf k) zero) (cf X) → (trim p X).length = 0 := fun k X e => by
    rw [trim, mk_length]
    refine Nat.le_zero.1 (tp_bound (fun j _ => ?_))
    have := e.symm j
    rw [mul_comm, zero_mul] at this
    simpa [zero] using this
  exact ⟨z k1 A e1, z k2 B e2⟩

theorem GI.some {p : Nat} {A B : List Int} {M : Nat} {hs hu hv nu nv : List Int} (h : GI p A B M hs hu hv [] nu nv) (h0 : 0 < hs.length) : ¬ ((trim p A).length = 0 ∧ (trim p B).length = 0) := by
  rintro ⟨ha, hb⟩
  have za : ∀ X : List Int, (trim p X).length = 0 → Eqp p (cf X) zero := fun X hX => by
    have := trim_eqp p X
    rw [List.length_eq_zero_iff.1 hX, cf_nil] at this
    exact this.symm
  have e := h.eh.trans (((Eqp.refl p (cf hu)).mul (za A ha)).add ((Eqp.refl p (cf hv)).mul (za B hb)))
  rw [mul_comm, zero_mul, mul_comm, zero_mul] at e
  have := e (hs.length - 1)
  refine h.chs.last_nd h0 ?_
  simpa [add, zero] using this

/-- d, u, v: the last row, its last place made 1 -/
structure GE (p : Nat) (A B d u v : List Int) : Prop where
  cd : Pol.Can p d
  cu : Pol.Can p u
  cv : Pol.Can p v
  pos : 0 < d.length
  one : zat d (d.length - 1) = 1
  eq : Eqp p (cf d) (add (mul (cf u) (cf A)) (mul (cf v) (cf B)))
  da : Dv p (cf d) (cf A)
  db : Dv p (cf d) (cf B)

theorem cf_sing (c : Int) : cf [c] = sc c one := by
  funext j; cases j <;> simp [cf, sc, one]

theorem pmul_sing (p : Nat) (X : List Int) (c : Int) : Eqp p (cf (pmul p X [c])) (sc c (cf X)) := by
  refine (pmul_eqp p X [c]).trans (Eqp.of_eq ?_)
  rw [cf_sing, mul_comm, sc_mul, one_mul]

theorem GI.done {p : Nat} (hp : Num.Prime p) (h3 : 3 ≤ p) {A B : List Int} {M : Nat} {hs hu hv nu nv : List Int} (h : GI p A B M hs hu hv [] nu nv) (h0 : 0 < hs.length) :
    GE p A B (pmul p hs [(invn p (zat hs (hs.length - 1)) : Int)]) (pmul p hu [(invn p (zat hs (hs.length - 1)) : Int)]) (pmul p hv [(invn p (zat hs (hs.length - 1)) : Int)]) := by
  have hnd := h.chs.last_nd h0
  have hiv := invn_dvd hp h3 hnd
  rw [show cf hs (hs.length - 1) = zat hs (hs.length - 1) from rfl] at hiv hnd
  obtain ⟨l, hl⟩ : ∃ l, l = zat hs (hs.length - 1) := ⟨_, rfl⟩
  obtain ⟨c, hc⟩ : ∃ c : Int, c = (invn p l : Int) := ⟨_, rfl⟩
  rw [← hl] at hiv ⊢
  rw [← hc] at hiv ⊢
  have hcl := invn_lt p l h3
  have hcnd : ¬ (p : Int) ∣ c := fun hd => by
    have h1 := Int.dvd_sub (Int.dvd_mul_of_dvd_left (c := l) hd) hiv
    rw [show c * l - (c * l - 1) = 1 from by omega] at h1
    have := Int.le_of_dvd (by decide) h1
    omega
  have hc0 : c ≠ 0 := fun e => hcnd (by rw [e]; exact Int.dvd_zero _)
  have hcc : Pol.Can p [c] := ⟨fun j hj => by simp at hj; subst hj; simp; omega, fun _ => by simpa using hc0⟩
  have hlen : (pmul p hs [c]).length = hs.length := by
    have := pmul_len hp h.chs hcc h0 (by simp)
    simp at this
    omega
  have hdv : ∀ X : S, Dv p (cf hs) X → Dv p (cf (pmul p hs [c])) X := fun X ⟨k, hk⟩ => ⟨pmul p k [l], by
    have e1 := (pmul_sing p k l).mul (pmul_sing p hs c)
    refine e1.trans (Eqp.trans ?_ hk)
    rw [sc_mul, mul_sc]
    intro j
    simp only [sc]
    obtain ⟨t, ht⟩ := hiv
    exact ⟨t * mul (cf k) (cf hs) j, by
      rw [show l * (c * mul (cf k) (cf hs) j) - mul (cf k) (cf hs) j = (c * l - 1) * mul (cf k) (cf hs) j from by grind, ht]; grind⟩⟩
  obtain ⟨d1, d2⟩ := h.dv (cf hs) ⟨[1], Eqp.of_eq (by rw [cf_one, one_mul])⟩ ⟨[], Eqp.of_eq (by rw [cf_nil, zero_mul])⟩
  refine ⟨pmul_can h3 _ _, pmul_can h3 _ _, pmul_can h3 _ _, by omega, ?_, ?_, hdv _ d1, hdv _ d2⟩
  · rw [hlen]
    have e := pmul_sing p hs c (hs.length - 1)
    simp only [sc] at e
    rw [show cf hs (hs.length - 1) = l from hl.symm, show cf (pmul p hs [c]) (hs.length - 1) = zat (pmul p hs [c]) (hs.length - 1) from rfl] at e
    have hb := (pmul_can h3 hs [c]).elem' (by omega) (hs.length - 1)
    refine eq_of_dvd (p := p) ?_ hb.1 hb.2 (by omega) (by omega)
    have := Int.dvd_add e hiv
    rwa [show zat (pmul p hs [c]) (hs.length - 1) - c * l + (c * l - 1) = zat (pmul p hs [c]) (hs.length - 1) - 1 from by omega] at this
  · refine (pmul_sing p hs c).trans ((h.eh.sc c).trans ?_)
    refine Eqp.trans (Eqp.of_eq ?_) (((pmul_sing p hu c).mul_left (cf A)).add ((pmul_sing p hv c).mul_left (cf B))).symm
    rw [sc_mul, sc_mul]
    funext j; simp only [sc, add]; grind

/-- what divides leaves nothing -/
theorem IsD.of_dv {p : Nat} (h3 : 3 ≤ p) {X d : List Int} (h0 : 0 < d.length) (h : Dv p (cf d) (cf X)) : ∃ q, IsD p X d q [] := by
  obtain ⟨k, hk⟩ := h
  refine ⟨trim p k, trim_can (by omega) k, Pol.Can.nil p, by simpa using h0, ?_⟩
  refine hk.symm.trans (Eqp.trans ((trim_eqp p k).mul_left (cf d)).symm (Eqp.of_eq ?_))
  rw [cf_nil]
  funext j; simp [add, zero]

end Go.Proofs.YtfombbbiilalpabDoor
