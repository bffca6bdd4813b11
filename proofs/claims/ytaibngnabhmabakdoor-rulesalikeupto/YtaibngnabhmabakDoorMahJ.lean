/- A step of the program is one of the document, plainly. -/
import Derived.Test.YtaibngnabhmabakDoorMahG
namespace Go.Proofs.YtaibngnabhmabakDoor
open Go.RowKit Go.Maps

theorem look_eq {s : RM} (he : s.err = 0) (x : Int) : s.look x = if 0 ≤ finz s.cs x then (s.shown x (cvl s.cs x), cvl s.cs x) else ({ s with err := 10 }, 0) := by
  unfold RM.look cvl
  rw [if_neg (by rw [he]; exact fun h => h rfl)]
  by_cases h : 0 ≤ finz s.cs x
  · rw [if_neg (by omega), if_pos h, if_pos h]
  · rw [if_pos (by omega), if_neg h]
theorem look_err {s : RM} (he : s.err ≠ 0) (x : Int) : s.look x = (s, 0) := by
  unfold RM.look
  rw [if_pos he]
theorem tell_eq {p : Nat} {s : RM} (he : s.err = 0) (x y : Int) : s.tell p x y = if (tel s.cs x (y % (p : Int))).1 = 0 then ({ s with cs := (tel s.cs x (y % (p : Int))).2 } : RM).shown x (y % (p : Int)) else { s with err := 7 } := by
  unfold RM.tell
  rw [if_neg (by rw [he]; exact fun h => h rfl)]
  by_cases h : 0 ≤ finz s.cs x
  · have hn : ¬ finz s.cs x < 0 := by omega
    by_cases h2 : (cat s.cs (finz s.cs x).toNat).2 = y % (p : Int)
    · simp [tel, cvl, tld, h, hn, h2]
    · simp [tel, cvl, h, h2]
  · have hn : finz s.cs x < 0 := by omega
    simp [tel, tld, h, hn]
theorem tell_err {p : Nat} {s : RM} (he : s.err ≠ 0) (x y : Int) : s.tell p x y = s := by
  unfold RM.tell
  rw [if_pos he]
theorem tel_two (cs : List (Int × Int)) (x y : Int) : (tel cs x y).1 = 0 ∨ (tel cs x y).1 = 7 := by
  unfold tel
  split
  · exact .inr rfl
  · exact .inl rfl
theorem tel_same {cs : List (Int × Int)} {x y : Int} (h : (tel cs x y).1 = 0) : (tel cs x y).2 = tld cs x y ∧ (0 ≤ finz cs x → cvl cs x = y) := by
  unfold tel at h ⊢
  split at h
  · simp at h
  · rename_i hh
    rw [if_neg hh]
    exact ⟨rfl, fun h1 => Decidable.byContradiction fun h2 => hh ⟨h1, h2⟩⟩
theorem tel_is {cs : List (Int × Int)} {x y : Int} (h : (tel cs x y).1 = 0) : cvl (tel cs x y).2 x = y := by
  rw [(tel_same h).1, tld_cvl (tel_same h).2, if_pos rfl]
theorem tel_keep {cs : List (Int × Int)} {x y u : Int} (h : (tel cs x y).1 = 0) (hu : 0 ≤ finz cs u) : cvl (tel cs x y).2 u = cvl cs u ∧ 0 ≤ finz (tel cs x y).2 u := by
  rw [(tel_same h).1, tld_cvl (tel_same h).2]
  refine ⟨?_, tld_finz.2 (.inl hu)⟩
  split
  · rename_i e
    subst e
    exact ((tel_same h).2 hu).symm
  · rfl

/-- cell 0 is 0 -/
def Zer (cs : List (Int × Int)) : Prop := 0 ≤ finz cs 0 ∧ cvl cs 0 = 0
theorem Zer.tel {cs : List (Int × Int)} {x y : Int} (h : Zer cs) (hh : (tel cs x y).1 = 0) : Zer (tel cs x y).2 := ⟨(tel_keep hh h.1).2, (tel_keep hh h.1).1.trans h.2⟩
/-- a step of the program is one of the document -/
def StepIs (p : Nat) (op a b c : Int) (n : Rg) (cs : List (Int × Int)) : Prop :=
  let x := cel3 p op a b c n.fp n.ap
  let r := wrk p op b (x 0) (x 1) (x 2) n cs
  let s := (freshM cs n).step p op a b c
  s.1.err = r.1 ∧ (r.1 = 0 → s.1.cs = r.2 ∧ s.1.now = [n.pc, n.fp, n.ap, n.rv, x 0, x 1, x 2, cvl r.2 (x 0), cvl r.2 (x 1), cvl r.2 (x 2)] ∧ s.2 = mvg p op a b n (cvl r.2 (x 0)) (cvl r.2 (x 1)) (cvl r.2 (x 2)))

section
variable {p : Nat} {a b c : Int} {n : Rg} {cs : List (Int × Int)}
theorem freshM_err : (freshM cs n).err = 0 := rfl
theorem fr_cs : (freshM cs n).cs = cs := rfl
theorem fr_fp : (freshM cs n).fp = n.fp := rfl
theorem fr_ap : (freshM cs n).ap = n.ap := rfl
theorem fr_pc : (freshM cs n).pc = n.pc := rfl
theorem fr_rv : (freshM cs n).rv = n.rv := rfl
theorem step_set (hz : Zer cs) : StepIs p 5 a b c n cs := by
  unfold StepIs
  simp [RM.step, cel3, wrk, mvg, fr_fp, fr_ap, fr_pc, fr_rv]
  rw [tell_eq freshM_err, fr_cs]
  by_cases h : (tel cs ((n.fp + a) % (p : Int)) (b % (p : Int))).1 = 0
  · simp [h, RM.shown, freshM, RM.now, stl, updM, tel_is h, (hz.tel h).2]
  · simp [(tel_two _ _ _).resolve_left h]
theorem step_take (hz : Zer cs) (hr : RgB p n) : StepIs p 12 a b c n cs := by
  unfold StepIs
  simp [RM.step, cel3, wrk, mvg, fr_fp, fr_ap, fr_pc, fr_rv]
  rw [tell_eq freshM_err, fr_cs, Int.emod_eq_of_lt hr.2.2.2.1 hr.2.2.2.2]
  by_cases h : (tel cs ((n.fp + a) % (p : Int)) n.rv).1 = 0
  · simp [h, RM.shown, freshM, RM.now, stl, updM, tel_is h, (hz.tel h).2]
  · simp [(tel_two _ _ _).resolve_left h]
theorem step_jump (hz : Zer cs) : StepIs p 8 a b c n cs := by
  unfold StepIs
  simp [RM.step, cel3, wrk, mvg, fr_fp, fr_ap, fr_rv]
  simp [freshM, RM.now, stl, hz.2]
theorem step_other {op : Int} (hno : op ≠ 0 ∧ op ≠ 1 ∧ op ≠ 2 ∧ op ≠ 3 ∧ op ≠ 4 ∧ op ≠ 5 ∧ op ≠ 6 ∧ op ≠ 7 ∧ op ≠ 8 ∧ op ≠ 9 ∧ op ≠ 10 ∧ op ≠ 11 ∧ op ≠ 12 ∧ op ≠ 13) : StepIs p op a b c n cs := by
  unfold StepIs
  simp [RM.step, wrk, hno]
theorem step_halt (hz : Zer cs) : StepIs p 0 a b c n cs := by
  unfold StepIs
  simp [RM.step, cel3, wrk, mvg, fr_fp, fr_ap, fr_pc, fr_rv]
  simp only [look_eq freshM_err, fr_cs]
  by_cases h : 0 ≤ finz cs ((n.fp + a) % (p : Int))
  · have gh : ¬ finz cs (((n.fp + a) % (p : Int))) < 0 := by omega
    simp [h, gh, RM.shown, freshM, RM.now, stl, updM, hz.2]
  · have gh : finz cs (((n.fp + a) % (p : Int))) < 0 := by omega
    simp [h, gh]
theorem step_zero (hz : Zer cs) : StepIs p 9 a b c n cs := by
  unfold StepIs
  simp [RM.step, cel3, wrk, mvg, fr_fp, fr_ap, fr_pc, fr_rv]
  simp only [look_eq freshM_err, fr_cs]
  by_cases h : 0 ≤ finz cs ((n.fp + a) % (p : Int))
  · have gh : ¬ finz cs (((n.fp + a) % (p : Int))) < 0 := by omega
    simp [h, gh, RM.shown, freshM, RM.now, stl, updM, hz.2]
  · have gh : finz cs (((n.fp + a) % (p : Int))) < 0 := by omega
    simp [h, gh]
theorem step_pass (hz : Zer cs) (hb : ∀ x, 0 ≤ cvl cs x ∧ cvl cs x < p) : StepIs p 13 a b c n cs := by
  unfold StepIs
  simp [RM.step, cel3, wrk, mvg, fr_fp, fr_ap, fr_pc, fr_rv]
  simp only [look_eq freshM_err, fr_cs]
  generalize (n.fp + a) % (p : Int) = A
  generalize (n.ap + 2 + b) % (p : Int) = B
  by_cases h : 0 ≤ finz cs A
  · have gh : ¬ finz cs (A) < 0 := by omega
    simp only [h, gh, if_true, if_false]
    have e1 : ((freshM cs n).shown A (cvl cs A)).err = 0 := rfl
    have e2 : ((freshM cs n).shown A (cvl cs A)).cs = cs := rfl
    rw [tell_eq e1, e2, Int.emod_eq_of_lt (hb A).1 (hb A).2]
    by_cases h2 : (tel cs B (cvl cs A)).1 = 0
    · simp [h2, RM.shown, freshM, RM.now, stl, updM, tel_is h2, (hz.tel h2).2, (tel_keep h2 h).1]
    · simp [(tel_two _ _ _).resolve_left h2]
  · have gh : finz cs (A) < 0 := by omega
    simp [h, gh, RM.tell]
theorem step_back : StepIs p 11 a b c n cs := by
  unfold StepIs
  simp [RM.step, cel3, wrk, mvg, fr_fp, fr_ap]
  simp only [look_eq freshM_err, fr_cs]
  generalize (n.fp + a) % (p : Int) = A
  generalize (n.fp - 2) % (p : Int) = X
  generalize (n.fp - 1) % (p : Int) = Y
  by_cases h : 0 ≤ finz cs X
  · have gh : ¬ finz cs (X) < 0 := by omega
    simp only [h, gh, if_true, if_false]
    have e1 : ((freshM cs n).shown X (cvl cs X)).err = 0 := rfl
    have e2 : ((freshM cs n).shown X (cvl cs X)).cs = cs := rfl
    rw [look_eq e1, e2]
    by_cases h2 : 0 ≤ finz cs Y
    · have gh2 : ¬ finz cs (Y) < 0 := by omega
      simp only [h2, gh2, if_true, if_false]
      have e3 : (((freshM cs n).shown X (cvl cs X)).shown Y (cvl cs Y)).err = 0 := rfl
      have e4 : (((freshM cs n).shown X (cvl cs X)).shown Y (cvl cs Y)).cs = cs := rfl
      rw [look_eq e3, e4]
      by_cases h3 : 0 ≤ finz cs A
      · have gh3 : ¬ finz cs (A) < 0 := by omega
        simp [h3, gh3, RM.shown, freshM, RM.now, stl, updM]
      · have gh3 : finz cs (A) < 0 := by omega
        simp [h3, gh3]
    · have gh2 : finz cs (Y) < 0 := by omega
      simp [h2, gh2, RM.look]
  · have gh : finz cs (X) < 0 := by omega
    simp [h, gh, RM.look]
theorem step_must (hz : Zer cs) : StepIs p 7 a b c n cs := by
  unfold StepIs
  simp [RM.step, cel3, wrk, mvg, fr_fp, fr_ap, fr_pc, fr_rv]
  simp only [look_eq freshM_err, fr_cs]
  generalize (n.fp + a) % (p : Int) = X
  generalize (n.fp + b) % (p : Int) = Y
  by_cases h : 0 ≤ finz cs X
  · have gh : ¬ finz cs (X) < 0 := by omega
    simp only [h, gh, if_true, if_false]
    have e1 : ((freshM cs n).shown X (cvl cs X)).err = 0 := rfl
    have e2 : ((freshM cs n).shown X (cvl cs X)).cs = cs := rfl
    rw [look_eq e1, e2]
    by_cases h2 : 0 ≤ finz cs Y
    · have gh2 : ¬ finz cs (Y) < 0 := by omega
      by_cases h3 : cvl cs X = cvl cs Y
      · simp [h2, gh2, h3, RM.must, RM.shown, freshM, RM.now, stl, updM, hz.2]
      · simp [h2, gh2, h3, RM.must, RM.shown, freshM]
    · have gh2 : finz cs (Y) < 0 := by omega
      simp [h2, gh2, RM.must]
  · have gh : finz cs (X) < 0 := by omega
    simp [h, gh, RM.look, RM.must]
theorem step_call (hz : Zer cs) (hr : RgB p n) : StepIs p 10 a b c n cs := by
  unfold StepIs
  have hap : n.ap % (p : Int) = n.ap := Int.emod_eq_of_lt hr.2.2.1.1 hr.2.2.1.2
  simp [RM.step, cel3, wrk, mvg, fr_fp, fr_ap, fr_pc, fr_rv, hap]
  rw [tell_eq freshM_err, fr_cs, Int.emod_eq_of_lt hr.2.1.1 hr.2.1.2]
  generalize (n.ap + 1) % (p : Int) = Y
  by_cases h : (tel cs n.ap n.fp).1 = 0
  · simp only [h, if_true]
    have e1 : (({ freshM cs n with cs := (tel cs n.ap n.fp).2 } : RM).shown n.ap n.fp).err = 0 := rfl
    have e2 : (({ freshM cs n with cs := (tel cs n.ap n.fp).2 } : RM).shown n.ap n.fp).cs = (tel cs n.ap n.fp).2 := rfl
    rw [tell_eq e1, e2]
    by_cases h2 : (tel (tel cs n.ap n.fp).2 Y ((n.pc + 1) % (p : Int))).1 = 0
    · have hk := tel_keep (u := n.ap) h2 (by rw [(tel_same h).1]; exact tld_finz.2 (.inr rfl))
      simp [h2, RM.shown, freshM, RM.now, stl, updM, tel_is h2, ((hz.tel h).tel h2).2, hk.1, tel_is h]
    · simp [(tel_two _ _ _).resolve_left h2]
  · have h7 := (tel_two cs n.ap n.fp).resolve_left h
    simp [h7, RM.tell]
/-- two looks and a telling -/
theorem step_three {op : Int} (ho : op = 1 ∨ op = 2 ∨ op = 3 ∨ op = 6) (h3 : 3 ≤ p) : StepIs p op a b c n cs := by
  unfold StepIs
  have hc : (op = 1 ∨ op = 2 ∨ op = 3 ∨ op = 4 ∨ op = 6) = True := by rw [eq_iff_iff]; exact ⟨fun _ => trivial, fun _ => by rcases ho with h | h | h | h <;> simp [h]⟩
  have hd : (op = 1 ∨ op = 2 ∨ op = 3 ∨ op = 6) = True := by rw [eq_iff_iff]; exact ⟨fun _ => trivial, fun _ => ho⟩
  have hn4 : op ≠ 4 := by rcases ho with rfl | rfl | rfl | rfl <;> decide
  have hm : ∀ x y z, mvg p op a b n x y z = ⟨(n.pc + 1) % (p : Int), n.fp, n.ap, n.rv⟩ := fun x y z => by
    unfold mvg
    rcases ho with rfl | rfl | rfl | rfl <;> simp
  simp only [RM.step, cel3, wrk, hc, hd, if_true, RM.three, RM.rck, if_neg hn4, hm, fr_fp, fr_ap, fr_pc, fr_rv]
  simp
  simp only [look_eq freshM_err, fr_cs]
  generalize (n.fp + a) % (p : Int) = X
  generalize (n.fp + b) % (p : Int) = Y
  generalize (n.fp + c) % (p : Int) = Z
  by_cases h : 0 ≤ finz cs X
  · have gh : ¬ finz cs (X) < 0 := by omega
    simp only [h, gh, if_true, if_false]
    have e1 : ((freshM cs n).shown X (cvl cs X)).err = 0 := rfl
    have e2 : ((freshM cs n).shown X (cvl cs X)).cs = cs := rfl
    rw [look_eq e1, e2]
    by_cases h2 : 0 ≤ finz cs Y
    · have gh2 : ¬ finz cs (Y) < 0 := by omega
      simp only [h2, gh2, if_true, if_false]
      have e3 : (((freshM cs n).shown X (cvl cs X)).shown Y (cvl cs Y)).err = 0 := rfl
      have e4 : (((freshM cs n).shown X (cvl cs X)).shown Y (cvl cs Y)).cs = cs := rfl
      have hb := rkn_bounds h3 op (cvl cs X) (cvl cs Y)
      rw [tell_eq e3, e4, Int.emod_eq_of_lt hb.1 hb.2]
      by_cases h5 : (tel cs Z (rkn p op (cvl cs X) (cvl cs Y))).1 = 0
      · simp [h5, RM.shown, freshM, RM.now, stl, updM, tel_is h5, (tel_keep h5 h).1, (tel_keep h5 h2).1]
      · simp [(tel_two _ _ _).resolve_left h5]
    · have gh2 : finz cs (Y) < 0 := by omega
      simp [h2, gh2, RM.tell]
  · have gh : finz cs (X) < 0 := by omega
    simp [h, gh, RM.look, RM.tell]
theorem step_div (h3 : 3 ≤ p) : StepIs p 4 a b c n cs := by
  unfold StepIs
  simp [RM.step, cel3, wrk, mvg, RM.three, RM.rck, fr_fp, fr_ap, fr_pc, fr_rv]
  simp only [look_eq freshM_err, fr_cs]
  generalize (n.fp + a) % (p : Int) = X
  generalize (n.fp + b) % (p : Int) = Y
  generalize (n.fp + c) % (p : Int) = Z
  by_cases h : 0 ≤ finz cs X
  · have gh : ¬ finz cs (X) < 0 := by omega
    simp only [h, gh, if_true, if_false]
    have e1 : ((freshM cs n).shown X (cvl cs X)).err = 0 := rfl
    have e2 : ((freshM cs n).shown X (cvl cs X)).cs = cs := rfl
    rw [look_eq e1, e2]
    by_cases h2 : 0 ≤ finz cs Y
    · have gh2 : ¬ finz cs (Y) < 0 := by omega
      by_cases hv : cvl cs Y = 0
      · simp [h2, gh2, hv, RM.must, RM.tell, RM.shown, freshM]
      · simp only [h2, gh2, if_true, if_false]
        have e0 : (((freshM cs n).shown X (cvl cs X)).shown Y (cvl cs Y)).must (cvl cs Y != 0) = ((freshM cs n).shown X (cvl cs X)).shown Y (cvl cs Y) := by simp [RM.must, hv]
        rw [e0]
        have e3 : (((freshM cs n).shown X (cvl cs X)).shown Y (cvl cs Y)).err = 0 := rfl
        have e4 : (((freshM cs n).shown X (cvl cs X)).shown Y (cvl cs Y)).cs = cs := rfl
        have hb := rkn_bounds h3 4 (cvl cs X) (cvl cs Y)
        rw [tell_eq e3, e4, Int.emod_eq_of_lt hb.1 hb.2]
        by_cases h5 : (tel cs Z (rkn p 4 (cvl cs X) (cvl cs Y))).1 = 0
        · simp [h5, hv, RM.shown, freshM, RM.now, stl, updM, tel_is h5, (tel_keep h5 h).1, (tel_keep h5 h2).1]
        · simp [hv, (tel_two _ _ _).resolve_left h5]
    · have gh2 : finz cs (Y) < 0 := by omega
      simp [h2, gh2, RM.must, RM.tell]
  · have gh : finz cs (X) < 0 := by omega
    simp [h, gh, RM.look, RM.must, RM.tell]
theorem step_is (op : Int) (h3 : 3 ≤ p) (hz : Zer cs) (hr : RgB p n) (hb : ∀ x, 0 ≤ cvl cs x ∧ cvl cs x < p) : StepIs p op a b c n cs := by
  by_cases h0 : op = 0; · subst h0; exact step_halt hz
  by_cases h1 : op = 1; · exact step_three (.inl h1) h3
  by_cases h2 : op = 2; · exact step_three (.inr (.inl h2)) h3
  by_cases h3' : op = 3; · exact step_three (.inr (.inr (.inl h3'))) h3
  by_cases h4 : op = 4; · subst h4; exact step_div h3
  by_cases h5 : op = 5; · subst h5; exact step_set hz
  by_cases h6 : op = 6; · exact step_three (.inr (.inr (.inr h6))) h3
  by_cases h7 : op = 7; · subst h7; exact step_must hz
  by_cases h8 : op = 8; · subst h8; exact step_jump hz
  by_cases h9 : op = 9; · subst h9; exact step_zero hz
  by_cases h10 : op = 10; · subst h10; exact step_call hz hr
  by_cases h11 : op = 11; · subst h11; exact step_back
  by_cases h12 : op = 12; · subst h12; exact step_take hz hr
  by_cases h13 : op = 13; · subst h13; exact step_pass hz hb
  exact step_other ⟨h0, h1, h2, h3', h4, h5, h6, h7, h8, h9, h10, h11, h12, h13⟩
end

end Go.Proofs.YtaibngnabhmabakDoor
