/- A step of the program is one of the document, plainly. Package machine: steps. Package machine: begun. Package machine: wrong. Package machine: what walked defers. Package machine: walked. Package machine: Walk; the document's, where the code is wrong. -/
import Derived.Test.YtoodjpkflcbfdaiDoorMahG
import Derived.Test.YtoodjpkflcbfdaiDoorMhh
import Derived.Test.YtoodjpkflcbfdaiDoorFld
import Derived.Defers
import Derived.Recover
import Derived.Test.YtoodjpkflcbfdaiDoorMck
namespace Go.Proofs.YtoodjpkflcbfdaiDoor
open Go.RowKit Go.Maps

theorem look_eq {s : RM} (he : s.err = 0) (x : Int) : s.look x = if 0 ≤ finz s.cs x then (s.shown x (cvl s.cs x), cvl s.cs x) else ({ s with err := 10 }, 0) := by
  unfold RM.look cvl
  rw [if_neg (by rw [he]; exact fun h => h rfl)]
  by_cases h : 0 ≤ finz s.cs x
  · rw [if_neg (by omega), if_pos h, if_pos h]
  · rw [if_pos (by omega), if_neg h]
theorem look_err {s : RM} (he : s.err ≠ 0) (x : Int) : s.look x = (s, 0) := by
  unfold RM.look
  rw [if_pos he]
theorem tell_eq {p : Nat} {s : RM} (he : s.err = 0) (x y : Int) : s.tell p x y = if (tel s.cs x (y % (p : Int))).1 = 0 then ({ s with cs := (tel s.cs x (y % (p : Int))).2 } : RM).shown x (y % (p : Int)) else { s with err := 7 } := by
  unfold RM.tell
  rw [if_neg (by rw [he]; exact fun h => h rfl)]
  by_cases h : 0 ≤ finz s.cs x
  · have hn : ¬ finz s.cs x < 0 := by omega
    by_cases h2 : (cat s.cs (finz s.cs x).toNat).2 = y % (p : Int)
    · simp [tel, cvl, tld, h, hn, h2]
    · simp [tel, cvl, h, h2]
  · have hn : finz s.cs x < 0 := by omega
    simp [tel, tld, h, hn]
theorem tell_err {p : Nat} {s : RM} (he : s.err ≠ 0) (x y : Int) : s.tell p x y = s := by
  unfold RM.tell
  rw [if_pos he]
theorem tel_two (cs : List (Int × Int)) (x y : Int) : (tel cs x y).1 = 0 ∨ (tel cs x y).1 = 7 := by
  unfold tel
  split
  · exact .inr rfl
  · exact .inl rfl
theorem tel_same {cs : List (Int × Int)} {x y : Int} (h : (tel cs x y).1 = 0) : (tel cs x y).2 = tld cs x y ∧ (0 ≤ finz cs x → cvl cs x = y) := by
  unfold tel at h ⊢
  split at h
  · simp at h
  · rename_i hh
    rw [if_neg hh]
    exact ⟨rfl, fun h1 => Decidable.byContradiction fun h2 => hh ⟨h1, h2⟩⟩
theorem tel_is {cs : List (Int × Int)} {x y : Int} (h : (tel cs x y).1 = 0) : cvl (tel cs x y).2 x = y := by
  rw [(tel_same h).1, tld_cvl (tel_same h).2, if_pos rfl]
theorem tel_keep {cs : List (Int × Int)} {x y u : Int} (h : (tel cs x y).1 = 0) (hu : 0 ≤ finz cs u) : cvl (tel cs x y).2 u = cvl cs u ∧ 0 ≤ finz (tel cs x y).2 u := by
  rw [(tel_same h).1, tld_cvl (tel_same h).2]
  refine ⟨?_, tld_finz.2 (.inl hu)⟩
  split
  · rename_i e
    subst e
    exact ((tel_same h).2 hu).symm
  · rfl

/-- cell 0 is 0 -/
def Zer (cs : List (Int × Int)) : Prop := 0 ≤ finz cs 0 ∧ cvl cs 0 = 0
theorem Zer.tel {cs : List (Int × Int)} {x y : Int} (h : Zer cs) (hh : (tel cs x y).1 = 0) : Zer (tel cs x y).2 := ⟨(tel_keep hh h.1).2, (tel_keep hh h.1).1.trans h.2⟩
/-- a step of the program is one of the document -/
def StepIs (p : Nat) (op a b c : Int) (n : Rg) (cs : List (Int × Int)) : Prop :=
  let x := cel3 p op a b c n.fp n.ap
  let r := wrk p op b (x 0) (x 1) (x 2) n cs
  let s := (freshM cs n).step p op a b c
  s.1.err = r.1 ∧ (r.1 = 0 → s.1.cs = r.2 ∧ s.1.now = [n.pc, n.fp, n.ap, n.rv, x 0, x 1, x 2, cvl r.2 (x 0), cvl r.2 (x 1), cvl r.2 (x 2)] ∧ s.2 = mvg p op a b n (cvl r.2 (x 0)) (cvl r.2 (x 1)) (cvl r.2 (x 2)))

section
variable {p : Nat} {a b c : Int} {n : Rg} {cs : List (Int × Int)}
theorem freshM_err : (freshM cs n).err = 0 := rfl
theorem fr_cs : (freshM cs n).cs = cs := rfl
theorem fr_fp : (freshM cs n).fp = n.fp := rfl
theorem fr_ap : (freshM cs n).ap = n.ap := rfl
theorem fr_pc : (freshM cs n).pc = n.pc := rfl
theorem fr_rv : (freshM cs n).rv = n.rv := rfl
theorem step_set (hz : Zer cs) : StepIs p 5 a b c n cs := by
  unfold StepIs
  simp [RM.step, cel3, wrk, mvg, fr_fp, fr_ap, fr_pc, fr_rv]
  rw [tell_eq freshM_err, fr_cs]
  by_cases h : (tel cs ((n.fp + a) % (p : Int)) (b % (p : Int))).1 = 0
  · simp [h, RM.shown, freshM, RM.now, stl, updM, tel_is h, (hz.tel h).2]
  · simp [(tel_two _ _ _).resolve_left h]
theorem step_take (hz : Zer cs) (hr : RgB p n) : StepIs p 12 a b c n cs := by
  unfold StepIs
  simp [RM.step, cel3, wrk, mvg, fr_fp, fr_ap, fr_pc, fr_rv]
  rw [tell_eq freshM_err, fr_cs, Int.emod_eq_of_lt hr.2.2.2.1 hr.2.2.2.2]
  by_cases h : (tel cs ((n.fp + a) % (p : Int)) n.rv).1 = 0
  · simp [h, RM.shown, freshM, RM.now, stl, updM, tel_is h, (hz.tel h).2]
  · simp [(tel_two _ _ _).resolve_left h]
theorem step_jump (hz : Zer cs) : StepIs p 8 a b c n cs := by
  unfold StepIs
  simp [RM.step, cel3, wrk, mvg, fr_fp, fr_ap, fr_rv]
  simp [freshM, RM.now, stl, hz.2]
theorem step_other {op : Int} (hno : op ≠ 0 ∧ op ≠ 1 ∧ op ≠ 2 ∧ op ≠ 3 ∧ op ≠ 4 ∧ op ≠ 5 ∧ op ≠ 6 ∧ op ≠ 7 ∧ op ≠ 8 ∧ op ≠ 9 ∧ op ≠ 10 ∧ op ≠ 11 ∧ op ≠ 12 ∧ op ≠ 13) : StepIs p op a b c n cs := by
  unfold StepIs
  simp [RM.step, wrk, hno]
theorem step_halt (hz : Zer cs) : StepIs p 0 a b c n cs := by
  unfold StepIs
  simp [RM.step, cel3, wrk, mvg, fr_fp, fr_ap, fr_pc, fr_rv]
  simp only [look_eq freshM_err, fr_cs]
  by_cases h : 0 ≤ finz cs ((n.fp + a) % (p : Int))
  · have gh : ¬ finz cs (((n.fp + a) % (p : Int))) < 0 := by omega
    simp [h, gh, RM.shown, freshM, RM.now, stl, updM, hz.2]
  · have gh : finz cs (((n.fp + a) % (p : Int))) < 0 := by omega
    simp [h, gh]
theorem step_zero (hz : Zer cs) : StepIs p 9 a b c n cs := by
  unfold StepIs
  simp [RM.step, cel3, wrk, mvg, fr_fp, fr_ap, fr_pc, fr_rv]
  simp only [look_eq freshM_err, fr_cs]
  by_cases h : 0 ≤ finz cs ((n.fp + a) % (p : Int))
  · have gh : ¬ finz cs (((n.fp + a) % (p : Int))) < 0 := by omega
    simp [h, gh, RM.shown, freshM, RM.now, stl, updM, hz.2]
  · have gh : finz cs (((n.fp + a) % (p : Int))) < 0 := by omega
    simp [h, gh]
theorem step_pass (hz : Zer cs) (hb : ∀ x, 0 ≤ cvl cs x ∧ cvl cs x < p) : StepIs p 13 a b c n cs := by
  unfold StepIs
  simp [RM.step, cel3, wrk, mvg, fr_fp, fr_ap, fr_pc, fr_rv]
  simp only [look_eq freshM_err, fr_cs]
  generalize (n.fp + a) % (p : Int) = A
  generalize (n.ap + 2 + b) % (p : Int) = B
  by_cases h : 0 ≤ finz cs A
  · have gh : ¬ finz cs (A) < 0 := by omega
    simp only [h, gh, if_true, if_false]
    have e1 : ((freshM cs n).shown A (cvl cs A)).err = 0 := rfl
    have e2 : ((freshM cs n).shown A (cvl cs A)).cs = cs := rfl
    rw [tell_eq e1, e2, Int.emod_eq_of_lt (hb A).1 (hb A).2]
    by_cases h2 : (tel cs B (cvl cs A)).1 = 0
    · simp [h2, RM.shown, freshM, RM.now, stl, updM, tel_is h2, (hz.tel h2).2, (tel_keep h2 h).1]
    · simp [(tel_two _ _ _).resolve_left h2]
  · have gh : finz cs (A) < 0 := by omega
    simp [h, gh, RM.tell]
theorem step_back : StepIs p 11 a b c n cs := by
  unfold StepIs
  simp [RM.step, cel3, wrk, mvg, fr_fp, fr_ap]
  simp only [look_eq freshM_err, fr_cs]
  generalize (n.fp + a) % (p : Int) = A
  generalize (n.fp - 2) % (p : Int) = X
  generalize (n.fp - 1) % (p : Int) = Y
  by_cases h : 0 ≤ finz cs X
  · have gh : ¬ finz cs (X) < 0 := by omega
    simp only [h, gh, if_true, if_false]
    have e1 : ((freshM cs n).shown X (cvl cs X)).err = 0 := rfl
    have e2 : ((freshM cs n).shown X (cvl cs X)).cs = cs := rfl
    rw [look_eq e1, e2]
    by_cases h2 : 0 ≤ finz cs Y
    · have gh2 : ¬ finz cs (Y) < 0 := by omega
      simp only [h2, gh2, if_true, if_false]
      have e3 : (((freshM cs n).shown X (cvl cs X)).shown Y (cvl cs Y)).err = 0 := rfl
      have e4 : (((freshM cs n).shown X (cvl cs X)).shown Y (cvl cs Y)).cs = cs := rfl
      rw [look_eq e3, e4]
      by_cases h3 : 0 ≤ finz cs A
      · have gh3 : ¬ finz cs (A) < 0 := by omega
        simp [h3, gh3, RM.shown, freshM, RM.now, stl, updM]
      · have gh3 : finz cs (A) < 0 := by omega
        simp [h3, gh3]
    · have gh2 : finz cs (Y) < 0 := by omega
      simp [h2, gh2, RM.look]
  · have gh : finz cs (X) < 0 := by omega
    simp [h, gh, RM.look]
theorem step_must (hz : Zer cs) : StepIs p 7 a b c n cs := by
  unfold StepIs
  simp [RM.step, cel3, wrk, mvg, fr_fp, fr_ap, fr_pc, fr_rv]
  simp only [look_eq freshM_err, fr_cs]
  generalize (n.fp + a) % (p : Int) = X
  generalize (n.fp + b) % (p : Int) = Y
  by_cases h : 0 ≤ finz cs X
  · have gh : ¬ finz cs (X) < 0 := by omega
    simp only [h, gh, if_true, if_false]
    have e1 : ((freshM cs n).shown X (cvl cs X)).err = 0 := rfl
    have e2 : ((freshM cs n).shown X (cvl cs X)).cs = cs := rfl
    rw [look_eq e1, e2]
    by_cases h2 : 0 ≤ finz cs Y
    · have gh2 : ¬ finz cs (Y) < 0 := by omega
      by_cases h3 : cvl cs X = cvl cs Y
      · simp [h2, gh2, h3, RM.must, RM.shown, freshM, RM.now, stl, updM, hz.2]
      · simp [h2, gh2, h3, RM.must, RM.shown, freshM]
    · have gh2 : finz cs (Y) < 0 := by omega
      simp [h2, gh2, RM.must]
  · have gh : finz cs (X) < 0 := by omega
    simp [h, gh, RM.look, RM.must]
theorem step_call (hz : Zer cs) (hr : RgB p n) : StepIs p 10 a b c n cs := by
  unfold StepIs
  have hap : n.ap % (p : Int) = n.ap := Int.emod_eq_of_lt hr.2.2.1.1 hr.2.2.1.2
  simp [RM.step, cel3, wrk, mvg, fr_fp, fr_ap, fr_pc, fr_rv, hap]
  rw [tell_eq freshM_err, fr_cs, Int.emod_eq_of_lt hr.2.1.1 hr.2.1.2]
  generalize (n.ap + 1) % (p : Int) = Y
  by_cases h : (tel cs n.ap n.fp).1 = 0
  · simp only [h, if_true]
    have e1 : (({ freshM cs n with cs := (tel cs n.ap n.fp).2 } : RM).shown n.ap n.fp).err = 0 := rfl
    have e2 : (({ freshM cs n with cs := (tel cs n.ap n.fp).2 } : RM).shown n.ap n.fp).cs = (tel cs n.ap n.fp).2 := rfl
    rw [tell_eq e1, e2]
    by_cases h2 : (tel (tel cs n.ap n.fp).2 Y ((n.pc + 1) % (p : Int))).1 = 0
    · have hk := tel_keep (u := n.ap) h2 (by rw [(tel_same h).1]; exact tld_finz.2 (.inr rfl))
      simp [h2, RM.shown, freshM, RM.now, stl, updM, tel_is h2, ((hz.tel h).tel h2).2, hk.1, tel_is h]
    · simp [(tel_two _ _ _).resolve_left h2]
  · have h7 := (tel_two cs n.ap n.fp).resolve_left h
    simp [h7, RM.tell]
/-- two looks and a telling -/
theorem step_three {op : Int} (ho : op = 1 ∨ op = 2 ∨ op = 3 ∨ op = 6) (h3 : 3 ≤ p) : StepIs p op a b c n cs := by
  unfold StepIs
  have hc : (op = 1 ∨ op = 2 ∨ op = 3 ∨ op = 4 ∨ op = 6) = True := by rw [eq_iff_iff]; exact ⟨fun _ => trivial, fun _ => by rcases ho with h | h | h | h <;> simp [h]⟩
  have hd : (op = 1 ∨ op = 2 ∨ op = 3 ∨ op = 6) = True := by rw [eq_iff_iff]; exact ⟨fun _ => trivial, fun _ => ho⟩
  have hn4 : op ≠ 4 := by rcases ho with rfl | rfl | rfl | rfl <;> decide
  have hm : ∀ x y z, mvg p op a b n x y z = ⟨(n.pc + 1) % (p : Int), n.fp, n.ap, n.rv⟩ := fun x y z => by
    unfold mvg
    rcases ho with rfl | rfl | rfl | rfl <;> simp
  simp only [RM.step, cel3, wrk, hc, hd, if_true, RM.three, RM.rck, if_neg hn4, hm, fr_fp, fr_ap, fr_pc, fr_rv]
  simp
  simp only [look_eq freshM_err, fr_cs]
  generalize (n.fp + a) % (p : Int) = X
  generalize (n.fp + b) % (p : Int) = Y
  generalize (n.fp + c) % (p : Int) = Z
  by_cases h : 0 ≤ finz cs X
  · have gh : ¬ finz cs (X) < 0 := by omega
    simp only [h, gh, if_true, if_false]
    have e1 : ((freshM cs n).shown X (cvl cs X)).err = 0 := rfl
    have e2 : ((freshM cs n).shown X (cvl cs X)).cs = cs := rfl
    rw [look_eq e1, e2]
    by_cases h2 : 0 ≤ finz cs Y
    · have gh2 : ¬ finz cs (Y) < 0 := by omega
      simp only [h2, gh2, if_true, if_false]
      have e3 : (((freshM cs n).shown X (cvl cs X)).shown Y (cvl cs Y)).err = 0 := rfl
      have e4 : (((freshM cs n).shown X (cvl cs X)).shown Y (cvl cs Y)).cs = cs := rfl
      have hb := rkn_bounds h3 op (cvl cs X) (cvl cs Y)
      rw [tell_eq e3, e4, Int.emod_eq_of_lt hb.1 hb.2]
      by_cases h5 : (tel cs Z (rkn p op (cvl cs X) (cvl cs Y))).1 = 0
      · simp [h5, RM.shown, freshM, RM.now, stl, updM, tel_is h5, (tel_keep h5 h).1, (tel_keep h5 h2).1]
      · simp [(tel_two _ _ _).resolve_left h5]
    · have gh2 : finz cs (Y) < 0 := by omega
      simp [h2, gh2, RM.tell]
  · have gh : finz cs (X) < 0 := by omega
    simp [h, gh, RM.look, RM.tell]
theorem step_div (h3 : 3 ≤ p) : StepIs p 4 a b c n cs := by
  unfold StepIs
  simp [RM.step, cel3, wrk, mvg, RM.three, RM.rck, fr_fp, fr_ap, fr_pc, fr_rv]
  simp only [look_eq freshM_err, fr_cs]
  generalize (n.fp + a) % (p : Int) = X
  generalize (n.fp + b) % (p : Int) = Y
  generalize (n.fp + c) % (p : Int) = Z
  by_cases h : 0 ≤ finz cs X
  · have gh : ¬ finz cs (X) < 0 := by omega
    simp only [h, gh, if_true, if_false]
    have e1 : ((freshM cs n).shown X (cvl cs X)).err = 0 := rfl
    have e2 : ((freshM cs n).shown X (cvl cs X)).cs = cs := rfl
    rw [look_eq e1, e2]
    by_cases h2 : 0 ≤ finz cs Y
    · have gh2 : ¬ finz cs (Y) < 0 := by omega
      by_cases hv : cvl cs Y = 0
      · simp [h2, gh2, hv, RM.must, RM.tell, RM.shown, freshM]
      · simp only [h2, gh2, if_true, if_false]
        have e0 : (((freshM cs n).shown X (cvl cs X)).shown Y (cvl cs Y)).must (cvl cs Y != 0) = ((freshM cs n).shown X (cvl cs X)).shown Y (cvl cs Y) := by simp [RM.must, hv]
        rw [e0]
        have e3 : (((freshM cs n).shown X (cvl cs X)).shown Y (cvl cs Y)).err = 0 := rfl
        have e4 : (((freshM cs n).shown X (cvl cs X)).shown Y (cvl cs Y)).cs = cs := rfl
        have hb := rkn_bounds h3 4 (cvl cs X) (cvl cs Y)
        rw [tell_eq e3, e4, Int.emod_eq_of_lt hb.1 hb.2]
        by_cases h5 : (tel cs Z (rkn p 4 (cvl cs X) (cvl cs Y))).1 = 0
        · simp [h5, hv, RM.shown, freshM, RM.now, stl, updM, tel_is h5, (tel_keep h5 h).1, (tel_keep h5 h2).1]
        · simp [hv, (tel_two _ _ _).resolve_left h5]
    · have gh2 : finz cs (Y) < 0 := by omega
      simp [h2, gh2, RM.must, RM.tell]
  · have gh : finz cs (X) < 0 := by omega
    simp [h, gh, RM.look, RM.must, RM.tell]
theorem step_is (op : Int) (h3 : 3 ≤ p) (hz : Zer cs) (hr : RgB p n) (hb : ∀ x, 0 ≤ cvl cs x ∧ cvl cs x < p) : StepIs p op a b c n cs := by
  by_cases h0 : op = 0; · subst h0; exact step_halt hz
  by_cases h1 : op = 1; · exact step_three (.inl h1) h3
  by_cases h2 : op = 2; · exact step_three (.inr (.inl h2)) h3
  by_cases h3' : op = 3; · exact step_three (.inr (.inr (.inl h3'))) h3
  by_cases h4 : op = 4; · subst h4; exact step_div h3
  by_cases h5 : op = 5; · subst h5; exact step_set hz
  by_cases h6 : op = 6; · exact step_three (.inr (.inr (.inr h6))) h3
  by_cases h7 : op = 7; · subst h7; exact step_must hz
  by_cases h8 : op = 8; · subst h8; exact step_jump hz
  by_cases h9 : op = 9; · subst h9; exact step_zero hz
  by_cases h10 : op = 10; · subst h10; exact step_call hz hr
  by_cases h11 : op = 11; · subst h11; exact step_back
  by_cases h12 : op = 12; · subst h12; exact step_take hz hr
  by_cases h13 : op = 13; · subst h13; exact step_pass hz hb
  exact step_other ⟨h0, h1, h2, h3', h4, h5, h6, h7, h8, h9, h10, h11, h12, h13⟩
end

end Go.Proofs.YtoodjpkflcbfdaiDoor

namespace Go.Proofs.YtoodjpkflcbfdaiDoor
open Go.RowKit Go.Maps

/-- cells whose contents are elements -/
def CsB (p : Nat) (cs : List (Int × Int)) : Prop := ∀ j, j < cs.length → 0 ≤ (cat cs j).2 ∧ (cat cs j).2 < p
theorem csB_cvl {p : Nat} {cs : List (Int × Int)} (h3 : 3 ≤ p) (h : CsB p cs) (x : Int) : 0 ≤ cvl cs x ∧ cvl cs x < p := by
  unfold cvl
  split
  · rename_i hh
    exact h _ (finz_bound hh).1
  · omega
/-- what is known at the head of steps' loop -/
structure PkI (p limit : Nat) (L : List InsZ) (X : WR) (cs : List (Int × Int)) (n : Rg) (l : List (List Int)) (f : Nat) : Prop where
  is : X = mgo p L limit f (freshM cs n) l
  fuel : l.length + f = limit + 1
  pos : 1 ≤ f
  cb : CsB p cs
  zer : Zer cs
  rg : RgB p n
/-- what stands there -/
structure PkS (p R b B : Nat) (aL : Option Addr) (nL cL : Nat) (cs : List (Int × Int)) (n : Rg) (v : Value) (l : List (List Int)) (w W : World) : Prop where
  rn : RnAt W R b B aL nL cL n
  mp : MapAt W B (1 + 2 * l.length) cs
  stp : StR w.heap.size W v l
  gr : Gr2 B R w W
  hR : R < w.heap.size
  hB : B < w.heap.size
section
variable {p R b B : Nat} {aL : Option Addr} {nL cL : Nat} {cs cs' : List (Int × Int)} {n n' : Rg} {v : Value} {l : List (List Int)} {w W W' : World}
theorem StR.gr (h : StR w.heap.size W v l) (g : Gr2 B R W W') (hR : R < w.heap.size) (hB : B < w.heap.size) : StR w.heap.size W' v l := by
  refine ⟨h.1, ?_⟩
  rcases h.2 with hn | ⟨g', cap, cur, rfl, hb, hg, rest⟩
  · exact .inl hn
  · exact .inr ⟨g', cap, cur, rfl, hb, (g.block g' (Array.getElem?_eq_some_iff.1 hg).1 (by omega) (by omega)).trans hg, rest⟩
theorem PkS.step (h : PkS p R b B aL nL cL cs n v l w W) (e : Below W.heap.size W W') : PkS p R b B aL nL cL cs n v l w W' :=
  ⟨h.rn.of_block (e.block _ h.rn.lt), h.mp.kept (gb_noneM e) (by simp), h.stp.gr (Gr2.ofB e) h.hR h.hB, h.gr.trans (Gr2.ofB e), h.hR, h.hB⟩
/-- a step more is laid down -/
theorem PkS.app {x : List Int} {v' : Value} (h : PkS p R b B aL nL cL cs n v l w W) (g : Gr2 B R W W') (hr : RnAt W' R b B aL nL cL n') (hm : MapAt W' B (1 + 2 * l.length + 2) cs') {W2 : World} (hs : StR w.heap.size W2 v' (l ++ [x])) (e : Below w.heap.size W' W2) : PkS p R b B aL nL cL cs' n' v' (l ++ [x]) w W2 := by
  have g1 := h.gr.trans g
  refine ⟨hr.of_block (e.block _ h.hR), ?_, hs, ⟨e.os.trans g1.os, e.tape.trans g1.tape, e.output.trans g1.output, Nat.le_trans g1.size e.size, fun k hk e1 e2 => (e.block k hk).trans (g1.block k hk e1 e2)⟩, h.hR, h.hB⟩
  obtain ⟨D, ⟨es, cl, h1, h2⟩, h3⟩ := hm
  refine ⟨D, ⟨es, cl, (e.block _ h.hB).trans h1, ?_⟩, h3⟩
  rw [List.length_append]
  simpa [Nat.mul_add, Nat.add_assoc] using h2
end
/-- how steps ends -/
def PkR (B R : Nat) (X : WR) (w : World) (e : Ending) (w' : World) : Prop := Gr2 B R w w' ∧ match X with
  | .bad z => (z = 7 ∧ e = pnc 105) ∨ (z = 8 ∧ e = pnc 106) ∨ (z = 10 ∧ e = pnc 104)
  | .good l cs => ∃ v, e = .returned v ∧ StR w.heap.size w' v l ∧ MapAt w' B (1 + 2 * l.length) cs ∧ w'.cell? ⟨R, 2, none⟩ = some (.map (some B))

theorem zer_ite {P : Prop} [Decidable P] {a b : Int × List (Int × Int)} (ha : a.1 = 0 → Zer a.2) (hb : b.1 = 0 → Zer b.2) : (if P then a else b).1 = 0 → Zer (if P then a else b).2 := by
  split
  · exact ha
  · exact hb
theorem wrk_zer {p : Nat} {op ib x0 x1 x2 : Int} {n : Rg} {cs : List (Int × Int)} (hz : Zer cs) : (wrk p op ib x0 x1 x2 n cs).1 = 0 → Zer (wrk p op ib x0 x1 x2 n cs).2 := by
  have hc : ∀ e : Int, (e, cs).1 = 0 → Zer (e, cs).2 := fun _ _ => hz
  have ht : ∀ x y : Int, (tel cs x y).1 = 0 → Zer (tel cs x y).2 := fun _ _ h => hz.tel h
  unfold wrk
  refine zer_ite (zer_ite (hc _) (zer_ite (hc _) (ht _ _))) (zer_ite (zer_ite (hc _) (zer_ite (hc _) (zer_ite (hc _) (ht _ _)))) (zer_ite (ht _ _) (zer_ite (zer_ite (hc _) (zer_ite (hc _) (zer_ite (hc _) (hc _)))) (zer_ite ?_ (zer_ite (zer_ite (hc _) (zer_ite (hc _) (zer_ite (hc _) (hc _)))) (zer_ite (ht _ _) (zer_ite (zer_ite (hc _) (ht _ _)) (zer_ite (zer_ite (hc _) (hc _)) (zer_ite (hc _) (hc _))))))))))
  by_cases h : (tel cs x0 n.fp).1 = 0
  · rw [if_neg (fun hh => hh h)]
    exact fun h2 => (hz.tel h).tel h2
  · rw [if_pos h]
    exact ht _ _

set_option maxRecDepth 100000 in
set_option maxHeartbeats 4000000 in
theorem psteps_any (p R b B cL limit N : Nat) (aL : Option Addr) (L : List InsZ) (n0 : Rg) (cs0 : List (Int × Int)) (w : World) (h3 : 3 ≤ p) (h4 : p ≤ 2147483647) (hpr : Num.Prime p) (hR : RnAt w R b B aL L.length cL n0) (hM : MapAt w B 1 cs0) (hp : w.cell? ⟨b, 0, none⟩ = some (.int .i64 p)) (hL : LstI N w aL cL L) (hIB : InsB L) (hlim : limit ≤ 16384) (hNB : N ≤ B) (hNR : N ≤ R) (hbN : b < N) (hcb : CsB p cs0) (hz : Zer cs0) (hrg : RgB p n0) :
    Calls Tryd.prog 38 #[.pointer (some ⟨R, 0, none⟩), .int .i64 (limit : Int)] w (PkR B R (mgo p L limit (limit + 1) (freshM cs0 n0) []) w) := by
  obtain ⟨X, hX⟩ : ∃ X, X = mgo p L limit (limit + 1) (freshM cs0 n0) [] := ⟨_, rfl⟩
  rw [← hX]
  have hRl := hR.lt
  have hBl : B < w.heap.size := by obtain ⟨D, h1, _⟩ := hM; exact h1.lt
  have HS0 : Hid (PkI p limit L X cs0 n0 [] (limit + 1) ∧ PkS p R b B aL L.length cL cs0 n0 (.slice none 0 0) [] w w) := ⟨⟨hX, by simp, by omega, hcb, hz, hrg⟩, ⟨hR, hM, World.ownsRow_nil _ _ _ _, ⟨rfl, rfl, rfl, Nat.le_refl _, fun _ _ _ _ => rfl⟩, hRl, hBl⟩⟩
  have HL := hid hL
  have HP := hid hp
  have HPR := hid hpr
  have HIB := hid hIB
  have HNN : Hid (N ≤ B ∧ N ≤ R ∧ b < N ∧ N ≤ w.heap.size) := ⟨hNB, hNR, hbN, by omega⟩
  obtain ⟨nL, hnL⟩ : ∃ nL, nL = L.length := ⟨_, rfl⟩
  have HNL := hid hnL
  clear hX hR hM hp hL hIB hNB hNR hbN hcb hz hrg hpr hRl hBl hnL
  go_enter Tryd.func38, Tryd.ntmps38
  go_wp2_with fail
  go_loopw [5] (fun lv wr => ∃ (cs : List (Int × Int)) (n : Rg) (l : List (List Int)) (f : Nat), lenW lv = l.length ∧ Hid (PkI p limit L X cs n l f ∧ PkS p R b B aL L.length cL cs n lv l w wr)) (fun lv _ => limit + 1 - lenW lv)
  case atStart => exact ⟨cs0, n0, [], limit + 1, rfl, HS0.out⟩
  case round =>
    obtain ⟨cs, n, l, f, hlv, hI⟩ := hrel
    obtain ⟨a, cap, hv⟩ : ∃ a c, u5 = .slice a l.length c := by
      rcases hI.out.2.stp.2 with ⟨h1, h2⟩ | ⟨g, c, cur, h1, _⟩
      · exact ⟨none, 0, by rw [h1, h2]⟩
      · exact ⟨_, _, h1⟩
    subst hv
    obtain ⟨nl, hnl⟩ : ∃ nl, nl = l.length := ⟨_, rfl⟩
    have HNl := hid hnl
    rw [← hnl]
    obtain ⟨k, hk⟩ := Int.eq_ofNat_of_zero_le hI.out.1.rg.1.1
    have hkp : k < p := by have := hI.out.1.rg.1.2; omega
    have hnll : nl ≤ limit := by have := hI.out.1.fuel; have := hI.out.1.pos; omega
    have HKE := hid hk
    clear hk hnl hlv
    have HBN : Hid (Below N w wr) := hI.out.2.gr.to HNN.out.1 HNN.out.2.1 HNN.out.2.2.2
    by_cases hpc : nL ≤ k
    · have HNX := hid (pnext_no R b B cL k aL L.length n wr hI.out.2.rn HKE.out (by rw [← HNL.out]; omega))
      have HBad : Hid (X = .bad 7) := by
        unfold Hid
        have h1 := hI.out.1
        obtain ⟨f', hf'⟩ : ∃ f', f = f' + 1 := ⟨f - 1, by have := h1.pos; omega⟩
        rw [h1.is, hf', mgo, if_pos (by show (L.length : Int) ≤ n.pc; rw [HKE.out, ← HNL.out]; omega)]
      clear hpc
      go_wp2_with fail
      refine HNX.out.mono ?_
      rintro e w2 ⟨rfl, hb2⟩
      refine ⟨rfl, hI.out.2.gr.trans (Gr2.ofB hb2), ?_⟩
      rw [HBad.out]
      exact .inl ⟨rfl, rfl⟩
    · have HNX := hid (pnext_yes R b B cL k aL L n wr hI.out.2.rn ((HL.out.below HBN.out).mono (Nat.le_trans HNN.out.2.2.2 hI.out.2.gr.size)) HKE.out (by rw [← HNL.out]; omega))
      have HIk := hid (HIB.out k (by rw [← HNL.out]; omega))
      obtain ⟨o, ho⟩ : ∃ o, o = insat L k := ⟨_, rfl⟩
      rw [← ho] at HNX HIk
      have HOk := hid ho
      obtain ⟨op, ia, ib, ic⟩ := o
      clear ho
      go_wp2_with fail
      refine HNX.out.mono ?_
      rintro e w2 ⟨rfl, hb2⟩
      have HI2 : Hid (PkI p limit L X cs n l f ∧ PkS p R b B aL L.length cL cs n (.slice a nl cap) l w (w2.alloc (.cells #[.int .i64 op, .int .i64 ia, .int .i64 ib, .int .i64 ic] 71))) := ⟨hI.out.1, by rw [HNl.out]; exact (hI.out.2.step hb2).step ((Below.refl _ _).alloc (Nat.le_refl _) _)⟩
      have HIN : Hid ((w2.alloc (.cells #[.int .i64 op, .int .i64 ia, .int .i64 ib, .int .i64 ic] 71)).heap[w2.heap.size]? = some (.cells #[.int .i64 op, .int .i64 ia, .int .i64 ib, .int .i64 ic] 71 (0, 0))) := heap_alloc_new w2 _
      have HSW : Hid (w.heap.size ≤ w2.heap.size) := Nat.le_trans hI.out.2.gr.size hb2.size
      clear hI hb2 HNX HBN
      obtain ⟨W2, hW2⟩ : ∃ W2, W2 = w2.alloc (.cells #[.int .i64 op, .int .i64 ia, .int .i64 ib, .int .i64 ic] 71) := ⟨_, rfl⟩
      rw [← hW2] at HI2 HIN
      have HW2 := hid hW2
      have HFX : Hid (∃ f', f = f' + 1 ∧ X = (if (L.length : Int) ≤ n.pc then .bad 7 else if l.length = limit ∧ op ≠ 0 then .bad 8 else if ((freshM cs n).step p op ia ib ic).1.err ≠ 0 then .bad ((freshM cs n).step p op ia ib ic).1.err else if op = 0 then .good (l ++ [((freshM cs n).step p op ia ib ic).1.now]) ((freshM cs n).step p op ia ib ic).1.cs else mgo p L limit f' (freshM ((freshM cs n).step p op ia ib ic).1.cs ((freshM cs n).step p op ia ib ic).2) (l ++ [((freshM cs n).step p op ia ib ic).1.now]))) := by
        have h1 := HI2.out.1
        obtain ⟨f', hf'⟩ : ∃ f', f = f' + 1 := ⟨f - 1, by have := h1.pos; omega⟩
        refine ⟨f', hf', ?_⟩
        have hpk : (freshM cs n).pc.toNat = k := by show n.pc.toNat = k; rw [HKE.out]; rfl
        rw [h1.is, hf', mgo, hpk, ← HOk.out]
        rfl
      have HPC : Hid (¬ (L.length : Int) ≤ n.pc) := by unfold Hid; rw [HKE.out, ← HNL.out]; omega
      by_cases hlim : nl = limit ∧ op ≠ 0
      · have hb1 : ((nl : Int) == (limit : Int)) = true := by rw [hlim.1]; simp
        have hb2 : (op != 0) = true := by simp [hlim.2]
        have HBad : Hid (X = .bad 8) := by
          obtain ⟨f', _, h2⟩ := HFX.out
          unfold Hid
          rw [h2, if_neg (by have := HPC.out; omega), if_pos ⟨by rw [← HNl.out]; exact hlim.1, hlim.2⟩]
        have HG2 := hid HI2.out.2.gr
        clear hlim HI2 HFX
        have g0 := fourM0 HIN.out
        clear HIN
        subst hW2
        go_wp2_with fail
        refine ⟨rfl, HG2.out, ?_⟩
        rw [HBad.out]
        exact .inr (.inl ⟨rfl, rfl⟩)
      · have HLim := hid hlim
        have hor : ((nl : Int) == (limit : Int)) = false ∨ (((nl : Int) == (limit : Int)) = true ∧ (op != 0) = false) := by
          by_cases h1 : nl = limit
          · refine .inr ⟨by rw [h1]; simp, ?_⟩
            have : op = 0 := Decidable.byContradiction fun h => hlim ⟨h1, h⟩
            simp [this]
          · exact .inl (by rw [beq_eq_false_iff_ne]; omega)
        obtain ⟨x, hx⟩ : ∃ x, x = cel3 p op ia ib ic n.fp n.ap := ⟨_, rfl⟩
        obtain ⟨r, hr⟩ : ∃ r, r = wrk p op ib (x 0) (x 1) (x 2) n cs := ⟨_, rfl⟩
        have hpW : W2.cell? ⟨b, 0, none⟩ = some (.int .i64 p) := by
          have hb := HI2.out.2.gr.to HNN.out.1 HNN.out.2.1 HNN.out.2.2.2
          exact (hb.cell (p := ⟨b, 0, none⟩) HNN.out.2.2.1).trans HP.out
        have hrg := HI2.out.1.rg
        have HSI := hid (step_is (a := ia) (b := ib) (c := ic) op h3 HI2.out.1.zer hrg (csB_cvl h3 HI2.out.1.cb))
        have HOKS := hid (step_ok (s := freshM cs n) (n := cs.length) h3 ⟨HI2.out.1.cb, Nat.le_refl _, fun _ => Nat.le_refl _⟩ hrg op ia ib ic)
        have HZR : Hid (r.1 = 0 → Zer r.2) := by unfold Hid; rw [hr]; exact wrk_zer HI2.out.1.zer
        have HST := hid (pstep_any p R b B (1 + 2 * l.length) aL L.length cL op ia ib ic n cs W2 h3 h4 HPR.out HI2.out.2.rn HI2.out.2.mp hpW (by unfold maxLen; have := HNl.out; omega) (csB_cvl h3 HI2.out.1.cb) ⟨HIk.out.2.1, HIk.out.2.2.1, HIk.out.2.2.2⟩ ⟨⟨by have := hrg.1; omega, by have := hrg.1; omega⟩, ⟨by have := hrg.2.1; omega, by have := hrg.2.1; omega⟩, ⟨by have := hrg.2.2.1; omega, by have := hrg.2.2.1; omega⟩, ⟨by have := hrg.2.2.2; omega, by have := hrg.2.2.2; omega⟩⟩ (by have := HNN.out; omega))
        unfold SpR at HST
        unfold StepIs at HSI
        rw [← hx] at HST HSI
        simp only [← hr] at HST HSI
        have g0 := fourM0 HIN.out
        have g1 := fourM1 HIN.out
        have g2 := fourM2 HIN.out
        have g3 := fourM3 HIN.out
        clear hlim hpW hrg hx hr
        rcases hor with hb1 | ⟨hb1, hb2⟩
        all_goals
          subst hW2
          go_wp2_with fail
          refine HST.out.mono ?_
          rintro e w3 ⟨hg3, hw3⟩
          have HGG := hid (HI2.out.2.gr.trans hg3)
          have HLL : Hid (¬ (l.length = limit ∧ op ≠ 0)) := by unfold Hid; rw [← HNl.out]; exact HLim.out
          rcases hw3 with ⟨h0, rfl, hr3, hm3⟩ | ⟨h7, rfl⟩ | ⟨h10, rfl⟩
          · obtain ⟨he1, he2⟩ := HSI.out
            obtain ⟨e1, e2, e3⟩ := he2 h0
            have HXX : Hid (∃ f', f = f' + 1 ∧ X = (if op = 0 then .good (l ++ [[n.pc, n.fp, n.ap, n.rv, x 0, x 1, x 2, cvl r.2 (x 0), cvl r.2 (x 1), cvl r.2 (x 2)]]) r.2 else mgo p L limit f' (freshM r.2 (mvg p op ia ib n (cvl r.2 (x 0)) (cvl r.2 (x 1)) (cvl r.2 (x 2)))) (l ++ [[n.pc, n.fp, n.ap, n.rv, x 0, x 1, x 2, cvl r.2 (x 0), cvl r.2 (x 1), cvl r.2 (x 2)]])) ∧ CsB p r.2 ∧ RgB p (mvg p op ia ib n (cvl r.2 (x 0)) (cvl r.2 (x 1)) (cvl r.2 (x 2)))) := by
              obtain ⟨f', hf', h2⟩ := HFX.out
              refine ⟨f', hf', ?_, ?_, ?_⟩
              · rw [h2, if_neg (by have := HPC.out; omega), if_neg HLL.out, if_neg (by rw [he1, h0]; exact fun h => h rfl), e1, e2, e3]
              · rw [← e1]; exact HOKS.out.1.1
              · rw [← e3]; exact HOKS.out.2
            have HZ2 := hid (HZR.out h0)
            have HR3 := hid hr3
            have HM3 := hid hm3
            have HG3 := hid hg3
            have HO3 : Hid (StR w.heap.size w3 (.slice a nl cap) l) := HI2.out.2.stp.gr hg3 HI2.out.2.hR HI2.out.2.hB
            have HI3 := hid HI2.out
            have HSZ : Hid (w.heap.size ≤ w3.heap.size) := HGG.out.size
            have HIN3 : Hid (w3.heap[w2.heap.size]? = some (.cells #[.int .i64 op, .int .i64 ia, .int .i64 ib, .int .i64 ic] 71 (0, 0))) := by
              have hlt := (Array.getElem?_eq_some_iff.1 HIN.out).1
              have h1 := HI2.out.2.hR
              have h2 := HI2.out.2.hB
              have h3 := HSW.out
              exact (hg3.block _ hlt (by omega) (by omega)).trans HIN.out
            have q0 := fourM0 HIN3.out
            have HIN4 := hid HIN3.out
            clear he1 he2 e1 e2 e3 h0 hr3 hm3 hg3 HFX HSI HOKS HZR HST HIN g0 g1 g2 g3 HI2 HIN3
            generalize mvg p op ia ib n (cvl r.2 (x 0)) (cvl r.2 (x 1)) (cvl r.2 (x 2)) = n2 at *
            generalize cvl r.2 (x 0) = v0 at *
            generalize cvl r.2 (x 1) = v1 at *
            generalize cvl r.2 (x 2) = v2 at *
            generalize x 0 = x0 at *
            generalize x 1 = x1 at *
            generalize x 2 = x2 at *
            go_wp2_with (at_builtin; refine wpList_stp w3 rfl _ _ rfl _ w.heap.size l n.pc n.fp n.ap n.rv x0 x1 x2 v0 v1 v2 HO3.out rfl rfl (by rw [← HNl.out]; omega) HSZ.out ?_)
            intro v' w4 hs4 hb4 hg4
            have HS4 := hid hs4
            have HPK := hid (HI3.out.2.app HG3.out HR3.out HM3.out hs4 hb4)
            have p0 : w4.cell? ⟨w2.heap.size, 0, none⟩ = some (.int .i64 op) := by
              refine (World.cell?_of_block (w := w3) (a := ⟨w2.heap.size, 0, none⟩) (hg4.block _ (World.block_lt_of_cell? _ _ q0) ?_)).trans q0
              intro e
              rcases HO3.out.2 with ⟨h1, _⟩ | ⟨g', cap', cur, h1, hb', hg', _⟩
              · rw [h1] at e; cases e
              · rw [h1] at e
                have e' : some w2.heap.size = some g' := e
                injection e' with e'
                rw [← e', HIN4.out] at hg'
                injection hg' with hg'
                injection hg' with _ h2 _
                exact absurd h2 (by decide)
            clear hs4 hb4 hg4
            by_cases hop : op = 0
            · subst hop
              have HEND : Hid (PkR B R X w (.returned v') w4) := by
                obtain ⟨f', _, h2, _⟩ := HXX.out
                unfold Hid
                rw [h2, if_pos rfl]
                exact ⟨HPK.out.gr, v', rfl, HS4.out, HPK.out.mp, HPK.out.rn.cell (i := 2) (by decide)⟩
              clear HXX HPK HI3
              go_wp2_with fail
              go_ret
              exact HEND.out
            · have hop2 : (op == 0) = false := by simp [hop]
              have HOP := hid hop
              clear hop
              go_wp2_with fail
              go_roundw
              case rel =>
                obtain ⟨f', hf', h2, h5, h6⟩ := HXX.out
                have hfu := HI3.out.1.fuel
                have hll := HLL.out
                have hlt : l.length ≠ limit := fun e => hll ⟨e, HOP.out⟩
                refine ⟨r.2, n2, l ++ [[n.pc, n.fp, n.ap, n.rv, x0, x1, x2, v0, v1, v2]], f', ?_, ⟨?_, ?_, ?_, h5, HZ2.out, h6⟩, HPK.out⟩
                · rcases HS4.out.2 with ⟨h1, h2⟩ | ⟨g, c, cur, h1, _⟩
                  · rw [h1, h2]; rfl
                  · rw [h1]; rfl
                · rw [h2, if_neg HOP.out]
                · rw [List.length_append]; simp; omega
                · omega
              case measure =>
                have h1 : lenW v' = nl + 1 := by
                  rcases HS4.out.2 with ⟨h1, h2⟩ | ⟨g, c, cur, h1, _⟩
                  · rw [List.length_append] at h2; simp at h2
                  · rw [h1, List.length_append, ← HNl.out]; rfl
                rw [h1]
                show _ < limit + 1 - nl
                omega
          · refine ⟨rfl, HGG.out, ?_⟩
            obtain ⟨f', _, h2⟩ := HFX.out
            rw [h2, if_neg (by have := HPC.out; omega), if_neg HLL.out, HSI.out.1, h7, if_pos (by decide)]
            exact .inl ⟨rfl, rfl⟩
          · refine ⟨rfl, HGG.out, ?_⟩
            obtain ⟨f', _, h2⟩ := HFX.out
            rw [h2, if_neg (by have := HPC.out; omega), if_neg HLL.out, HSI.out.1, h10, if_pos (by decide)]
            exact .inr (.inr ⟨rfl, rfl⟩)

end Go.Proofs.YtoodjpkflcbfdaiDoor

namespace Go.Proofs.YtoodjpkflcbfdaiDoor
open Go.RowKit Go.Maps

theorem cmap_nil : CMap (.map []) [] := fun _ _ => ⟨rfl, rfl⟩
/-- a map of one entry: cell 0 is 0 -/
theorem map_first (V : World) (M : Nat) (h0 : V.ownsMap Tryd.prog 3 (plainElem (H := Unit) Tryd.prog 3) M 0 (.map [])) : ∃ w1, (Instr.mapUpdate 62 (.map (some M)) (.int .i64 0) (.int .i64 0)).run Tryd.prog V = .ok () w1 ∧ MapAt w1 M 1 [(0, 0)] ∧ V.grownBy w1 (some M) := by
  obtain ⟨w1, h1, h2, h3⟩ := h0.update keyI Tryd.underlying62 (by decide) (key64 (x := 0) ⟨by decide, by decide⟩) (plainElem_int (H := Unit) Tryd.underlying3 (WalkArith.wf_i64 (n := 0) ⟨by decide, by decide⟩))
  refine ⟨w1, h1, ⟨_, h2, ?_⟩, h3⟩
  exact cmap_put (x := 0) (y := 0) cmap_nil h0.isMap (fun h => absurd h (by decide))

set_option maxRecDepth 100000 in
set_option maxHeartbeats 2000000 in
theorem pbegun_any (p b : Nat) (size : Int) (aL : Option Addr) (nL cL : Nat) (w : World) (h3 : 3 ≤ p) (h4 : p ≤ 2147483647) (hp : w.cell? ⟨b, 0, none⟩ = some (.int .i64 p)) (hs : 0 ≤ size ∧ size ≤ 65536) :
    Calls Tryd.prog 37 #[.pointer (some ⟨b, 0, none⟩), .agg #[.int .i64 size, .slice aL nL cL]] w fun e w' => ∃ R B, e = .returned (.pointer (some ⟨R, 0, none⟩)) ∧ RnAt w' R b B aL nL cL ⟨0, 1, (1 + size) % (p : Int), 0⟩ ∧ MapAt w' B 1 [(0, 0)] ∧ w.heap.size ≤ R ∧ w.heap.size ≤ B ∧ Below w.heap.size w w' := by
  have hmm := @run_makeMap Tryd.prog
  obtain ⟨W0, hW0⟩ : ∃ W0, W0 = w.alloc (.cells #[.int .i64 size, .slice aL nL cL] 24) := ⟨_, rfl⟩
  have hb0 : Below w.heap.size w W0 := by rw [hW0]; exact (Below.refl _ _).alloc (Nat.le_refl _) _
  obtain ⟨C, hC⟩ : ∃ C, C = w.heap.size := ⟨_, rfl⟩
  have hc0 : W0.heap[C]? = some (.cells #[.int .i64 size, .slice aL nL cL] 24 (0, 0)) := by rw [hC, hW0]; exact heap_alloc_new w _
  have c0 : W0.cell? ⟨C, 0, none⟩ = some (.int .i64 size) := by simp [World.cell?, hc0]
  have c1 : W0.cell? ⟨C, 1, none⟩ = some (.slice aL nL cL) := by simp [World.cell?, hc0]
  have hp0 := (hb0.cell (p := ⟨b, 0, none⟩) (World.block_lt_of_cell? _ _ hp)).trans hp
  have HKP : Hid (∀ W, Below W0.heap.size W0 W → (fun W => W.cell? ⟨C, 0, none⟩ = some (.int .i64 size) ∧ W.cell? ⟨C, 1, none⟩ = some (.slice aL nL cL)) W) := fun W hb => ⟨(hb.cell (p := ⟨C, 0, none⟩) (World.block_lt_of_cell? _ _ c0)).trans c0, (hb.cell (p := ⟨C, 1, none⟩) (World.block_lt_of_cell? _ _ c1)).trans c1⟩
  obtain ⟨z, hz⟩ : ∃ z, z = (1 + size) % (p : Int) := ⟨_, rfl⟩
  have HAD : Hid (∀ W, Below W0.heap.size W0 W → Calls Tryd.prog 58 #[.pointer (some ⟨b, 0, none⟩), .int .i64 1, .int .i64 size] W fun e w' => e = .returned (.int .i64 z) ∧ w' = W) := fun W hb => by
    rw [hz]
    exact add_any p b 1 size W h3 h4 ((hb.cell (p := ⟨b, 0, none⟩) (World.block_lt_of_cell? _ _ hp0)).trans hp0) (by decide) (by decide) (by omega) (by omega)
  have HB0 := hid hb0
  have HCC := hid hC
  rw [← hz]
  clear hz hp hp0 hc0 hb0 hs h3 h4
  go_enter Tryd.func37, Tryd.ntmps37
  go_wp2_with fail
  rw [← hW0, ← hC]
  clear hW0 hC
  have hbd : Below W0.heap.size W0 W0.drew := ⟨rfl, rfl, rfl, Nat.le_refl _, fun _ _ => rfl⟩
  refine wp_region_held_drew (S := (fun W => W.cell? ⟨C, 0, none⟩ = some (.int .i64 size) ∧ W.cell? ⟨C, 1, none⟩ = some (.slice aL nL cL))) (by kernel_rfl) ⟨c0, c1⟩ (fun hHeld => ?_)
  refine wpAnyH_takeW (i := 0) (v := .pointer (some ⟨b, 0, none⟩)) rfl (by kernel_rfl) (by kernel_rfl) (by kernel_rfl) (fun _ _ _ h => h) (by rfl) (fun W hC => by (obtain ⟨y0, y1⟩ := hC); go_simp) hHeld ?_
  simp only [Act.put, List.setIfInBounds_toArray, List.set_cons_zero, List.set_cons_succ]
  refine wpAnyH_takeW (i := 1) (v := .pointer (some ⟨C, 1, none⟩)) rfl (by kernel_rfl) (by kernel_rfl) (by kernel_rfl) (fun _ _ _ h => h) (by rfl) (fun W hC => by (obtain ⟨y0, y1⟩ := hC); go_simp) hHeld ?_
  simp only [Act.put, List.setIfInBounds_toArray, List.set_cons_zero, List.set_cons_succ]
  refine wpAnyH_takeW (i := 2) (v := .slice aL nL cL) rfl (by kernel_rfl) (by kernel_rfl) (by kernel_rfl) (fun _ _ _ h => h) (by rfl) (fun W hC => by (obtain ⟨y0, y1⟩ := hC); go_simp) hHeld ?_
  simp only [Act.put, List.setIfInBounds_toArray, List.set_cons_zero, List.set_cons_succ]
  refine wpAnyH_takeW (i := 6) (v := .pointer (some ⟨b, 0, none⟩)) rfl (by kernel_rfl) (by kernel_rfl) (by kernel_rfl) (fun _ _ _ h => h) (by rfl) (fun W hC => by (obtain ⟨y0, y1⟩ := hC); go_simp) hHeld ?_
  simp only [Act.put, List.setIfInBounds_toArray, List.set_cons_zero, List.set_cons_succ]
  refine wpAnyH_takeW (i := 7) (v := .pointer (some ⟨C, 0, none⟩)) rfl (by kernel_rfl) (by kernel_rfl) (by kernel_rfl) (fun _ _ _ h => h) (by rfl) (fun W hC => by (obtain ⟨y0, y1⟩ := hC); go_simp) hHeld ?_
  simp only [Act.put, List.setIfInBounds_toArray, List.set_cons_zero, List.set_cons_succ]
  refine wpAnyH_takeW (i := 8) (v := .int .i64 size) rfl (by kernel_rfl) (by kernel_rfl) (by kernel_rfl) (fun _ _ _ h => h) (by rfl) (fun W hC => by (obtain ⟨y0, y1⟩ := hC); go_simp) hHeld ?_
  simp only [Act.put, List.setIfInBounds_toArray, List.set_cons_zero, List.set_cons_succ]
  have hbm : Below W0.heap.size W0 (W0.alloc (.map #[] 0)).drew := ((Below.refl W0.heap.size W0).alloc (Nat.le_refl _) (.map #[] 0)).drew
  obtain ⟨w1, hrun, hma, hgr⟩ := map_first (W0.alloc (.map #[] 0)).drew W0.heap.size (World.ownsMap_made (H := Unit) W0 Tryd.prog 3 (plainElem Tryd.prog 3)).drew
  have hb1 : Below W0.heap.size W0 w1 := hbm.trans (gb_toM hgr (Nat.le_refl _) hbm.size)
  refine share (F := ?F) (Good := fun M W => Below W0.heap.size W0 W ∧ MapAt W M 1 [(0, 0)] ∧ W0.heap.size ≤ M) (fun REST => ?b1) ?b2
  case b1 =>
    refine wpAnyH_ready (rs := [3, 9]) (by kernel_rfl) (by simp) ?_
    refine AllReadyH.consW rfl (fun K hK => ?_) (AllReadyH.consW rfl (fun K hK => ?_) AllReadyH.nil)
    · go_simp
      refine hK.out _ _ (HKP.out _ hbm) (fun hHeld => ?_)
      clear hK K
      refine wpAnyH_ready (rs := [4, 9]) (by kernel_rfl) (by simp) ?_
      refine AllReadyH.consW rfl (fun K hK => ?_) (AllReadyH.consW rfl (fun K hK => ?_) AllReadyH.nil)
      · go_simp
        refine hK.out _ _ (HKP.out _ hb1) (fun hHeld => ?_)
        clear hK K
        refine wpAnyH_takeW (i := 5) (v := .map (some W0.heap.size)) rfl (by kernel_rfl) (by kernel_rfl) (by kernel_rfl) (fun _ _ _ h => h) (by rfl) (fun W hC => by (obtain ⟨y0, y1⟩ := hC); go_simp) hHeld ?_
        simp only [Act.put, List.setIfInBounds_toArray, List.set_cons_zero, List.set_cons_succ]
        refine wpAnyH_ready (rs := [9]) (by kernel_rfl) (by simp) ?_
        refine AllReadyH.consW rfl (fun K hK => ?_) AllReadyH.nil
        go_simp
        refine (HAD.out _ hb1).mono ?_
        rintro e wa ⟨rfl, hwa⟩
        rw [hwa]
        clear hwa wa
        refine hK.out _ _ (HKP.out _ hb1) (fun hHeld => ?_)
        clear hK K hHeld
        have hma2 : MapAt w1 W0.heap.size 1 [(0, 0)] := hma
        generalize hM : W0.heap.size = M at hma2 ⊢
        exact REST M w1 ⟨hb1, hma2, Nat.le_of_eq hM⟩
      · go_simp
        refine (HAD.out _ hbm).mono ?_
        rintro e wa ⟨rfl, hwa⟩
        rw [hwa]
        clear hwa wa
        refine hK.out _ _ (HKP.out _ hbm) (fun hHeld => ?_)
        clear hK K
        refine wpAnyH_ready (rs := [4]) (by kernel_rfl) (by simp) ?_
        refine AllReadyH.consW rfl (fun K hK => ?_) AllReadyH.nil
        go_simp
        refine hK.out _ _ (HKP.out _ hb1) (fun hHeld => ?_)
        clear hK K
        refine wpAnyH_takeW (i := 5) (v := .map (some W0.heap.size)) rfl (by kernel_rfl) (by kernel_rfl) (by kernel_rfl) (fun _ _ _ h => h) (by rfl) (fun W hC => by (obtain ⟨y0, y1⟩ := hC); go_simp) hHeld ?_
        simp only [Act.put, List.setIfInBounds_toArray, List.set_cons_zero, List.set_cons_succ]
        exact REST W0.heap.size w1 ⟨hb1, hma, Nat.le_refl _⟩
    · go_simp
      refine (HAD.out _ hbd).mono ?_
      rintro e wa ⟨rfl, hwa⟩
      rw [hwa]
      clear hwa wa
      refine hK.out _ _ (HKP.out _ hbd) (fun hHeld => ?_)
      clear hK K
      refine wpAnyH_ready (rs := [3]) (by kernel_rfl) (by simp) ?_
      refine AllReadyH.consW rfl (fun K hK => ?_) AllReadyH.nil
      go_simp
      refine hK.out _ _ (HKP.out _ hbm) (fun hHeld => ?_)
      clear hK K
      refine wpAnyH_ready (rs := [4]) (by kernel_rfl) (by simp) ?_
      refine AllReadyH.consW rfl (fun K hK => ?_) AllReadyH.nil
      go_simp
      refine hK.out _ _ (HKP.out _ hb1) (fun hHeld => ?_)
      clear hK K
      refine wpAnyH_takeW (i := 5) (v := .map (some W0.heap.size)) rfl (by kernel_rfl) (by kernel_rfl) (by kernel_rfl) (fun _ _ _ h => h) (by rfl) (fun W hC => by (obtain ⟨y0, y1⟩ := hC); go_simp) hHeld ?_
      simp only [Act.put, List.setIfInBounds_toArray, List.set_cons_zero, List.set_cons_succ]
      exact REST W0.heap.size w1 ⟨hb1, hma, Nat.le_refl _⟩
  case b2 =>
    rintro M W ⟨hbW, hmW, hMs⟩
    have hHeld := HKP.out W hbW
    refine wpAnyH_takeW (i := 10) (v := .agg #[.pointer (some ⟨b, 0, none⟩), .slice aL nL cL, .map (some M), .int .i64 0, .int .i64 1, .int .i64 z, .int .i64 0]) rfl (by kernel_rfl) (by kernel_rfl) (by kernel_rfl) (fun _ _ _ h => h) (by rfl) (fun W hC => by (obtain ⟨y0, y1⟩ := hC); go_simp) hHeld ?_
    simp only [Act.put, List.setIfInBounds_toArray, List.set_cons_zero, List.set_cons_succ]
    have hba := hbW.trans (((Below.refl W.heap.size W).alloc (Nat.le_refl _) (.cells #[.pointer (some ⟨b, 0, none⟩), .slice aL nL cL, .map (some M), .int .i64 0, .int .i64 1, .int .i64 z, .int .i64 0] 111)).mono hbW.size)
    have HEND : Hid (RnAt (W.alloc (.cells #[.pointer (some ⟨b, 0, none⟩), .slice aL nL cL, .map (some M), .int .i64 0, .int .i64 1, .int .i64 z, .int .i64 0] 111)) W.heap.size b M aL nL cL ⟨0, 1, z, 0⟩ ∧ MapAt (W.alloc (.cells #[.pointer (some ⟨b, 0, none⟩), .slice aL nL cL, .map (some M), .int .i64 0, .int .i64 1, .int .i64 z, .int .i64 0] 111)) M 1 [(0, 0)] ∧ w.heap.size ≤ W.heap.size ∧ w.heap.size ≤ M ∧ Below w.heap.size w (W.alloc (.cells #[.pointer (some ⟨b, 0, none⟩), .slice aL nL cL, .map (some M), .int .i64 0, .int .i64 1, .int .i64 z, .int .i64 0] 111))) := by
      have h1 := HB0.out.size
      have h2 := hbW.size
      refine ⟨row_newM W _ _ 7 _ rfl (fun i hi => by rcases seven hi with rfl | rfl | rfl | rfl | rfl | rfl | rfl <;> rfl), ?_, by omega, by omega, HB0.out.trans (hba.mono HB0.out.size)⟩
      obtain ⟨D, d1, d2⟩ := hmW
      exact ⟨D, d1.alloc _, d2⟩
    refine wpAnyH_ready (rs := [11]) (by kernel_rfl) (by simp) ?_
    refine AllReadyH.consW rfl (fun K hK => ?_) AllReadyH.nil
    go_simp
    refine hK.out _ _ (HKP.out _ hba) (fun hHeld => ?_)
    clear hK K
    refine wpAnyH_takeW (i := 12) (v := .pointer (some ⟨W.heap.size, 0, none⟩)) rfl (by kernel_rfl) (by kernel_rfl) (by kernel_rfl) (fun _ _ _ h => h) (by rfl) (fun W hC => by (obtain ⟨y0, y1⟩ := hC); go_simp) hHeld ?_
    simp only [Act.put, List.setIfInBounds_toArray, List.set_cons_zero, List.set_cons_succ]
    refine wpAnyH_done (by kernel_rfl) ?_ _
    clear hHeld hba hbW hmW hMs HKP HAD hma hgr hb1 hbm hrun
    go_wp2_with fail
    go_ret
    exact ⟨W.heap.size, M, rfl, HEND.out.1, HEND.out.2.1, HEND.out.2.2.1, HEND.out.2.2.2.1, HEND.out.2.2.2.2⟩

end Go.Proofs.YtoodjpkflcbfdaiDoor

namespace Go.Proofs.YtoodjpkflcbfdaiDoor
open Go.RowKit Go.Maps

/-- an error, or none -/
def errV (z : Int) : Value := if z = 0 then .nilIface else .iface 68 (.int .i64 z)
set_option maxRecDepth 100000 in
set_option maxHeartbeats 2000000 in
theorem pwrong_any (p b : Nat) (size limit : Int) (aL : Option Addr) (nL cL : Nat) (w : World) (hp : w.cell? ⟨b, 0, none⟩ = some (.int .i64 p)) (hn : nL ≤ 281474976710656) :
    Calls Tryd.prog 35 #[.pointer (some ⟨b, 0, none⟩), .agg #[.int .i64 size, .slice aL nL cL], .int .i64 limit] w fun e w' => e = .returned (errV (fz6 (p : Int) size nL limit)) ∧ Below w.heap.size w w' := by
  have hmx : Tryd.prog.follows .mixedOrders = true := by kernel_rfl
  obtain ⟨W0, hW0⟩ : ∃ W0, W0 = w.alloc (.cells #[.int .i64 size, .slice aL nL cL] 24) := ⟨_, rfl⟩
  have hb0 : Below w.heap.size w W0 := by rw [hW0]; exact (Below.refl _ _).alloc (Nat.le_refl _) _
  obtain ⟨C, hC⟩ : ∃ C, C = w.heap.size := ⟨_, rfl⟩
  have hc0 : W0.heap[C]? = some (.cells #[.int .i64 size, .slice aL nL cL] 24 (0, 0)) := by rw [hC, hW0]; exact heap_alloc_new w _
  have c0 : W0.cell? ⟨C, 0, none⟩ = some (.int .i64 size) := by simp [World.cell?, hc0]
  have c1 : W0.cell? ⟨C, 1, none⟩ = some (.slice aL nL cL) := by simp [World.cell?, hc0]
  have hp0 := (hb0.cell (p := ⟨b, 0, none⟩) (World.block_lt_of_cell? _ _ hp)).trans hp
  have HPC := hid (p_any p b W0.drew hp0)
  have HB0 := hid hb0
  obtain ⟨z, hz⟩ : ∃ z, z = fz6 (p : Int) size nL limit := ⟨_, rfl⟩
  have HZ := hid hz
  rw [← hz]
  clear hz hp hp0 hc0 hb0
  by_cases h1 : size < 0 ∨ 65536 < size
  · have HE : Hid (z = 2) := by unfold Hid; rw [HZ.out, fz6, if_pos (by omega)]
    by_cases h2 : size < 0
    · clear h1
      go_enter Tryd.func35, Tryd.ntmps35
      go_wp2_with fail
      rw [← hW0]
      go_ret
      exact ⟨by rw [HE.out]; rfl, HB0.out⟩
    · have h3 : 65536 < size := by omega
      clear h1
      go_enter Tryd.func35, Tryd.ntmps35
      go_wp2_with fail
      rw [← hW0]
      go_ret
      exact ⟨by rw [HE.out]; rfl, HB0.out⟩
  · have h2 : ¬ size < 0 := by omega
    have h3 : ¬ 65536 < size := by omega
    clear h1
    by_cases h4 : nL = 0 ∨ 4096 < nL
    · have HE : Hid (z = 2) := by unfold Hid; rw [HZ.out, fz6, if_pos (by omega)]
      by_cases h5 : nL = 0
      · have q1 : ((nL : Int) == 0) = true := by rw [h5]; rfl
        clear h4 h5
        go_enter Tryd.func35, Tryd.ntmps35
        go_wp2_with fail
        rw [← hW0, ← hC]
        clear hW0 hC
        go_quiet (fail)
        go_wp2_with fail
        go_ret
        exact ⟨by rw [HE.out]; rfl, HB0.out.trans ((belM W0 nq).mono HB0.out.size)⟩
      · have q1 : ((nL : Int) == 0) = false := by rw [beq_eq_false_iff_ne]; omega
        have q2 : 4096 < (nL : Int) := by omega
        clear h4 h5
        go_enter Tryd.func35, Tryd.ntmps35
        go_wp2_with fail
        rw [← hW0, ← hC]
        clear hW0 hC
        go_quiet (fail)
        go_wp2_with fail
        go_ret
        exact ⟨by rw [HE.out]; rfl, HB0.out.trans ((belM W0 nq).mono HB0.out.size)⟩
    · have q1 : ((nL : Int) == 0) = false := by rw [beq_eq_false_iff_ne]; omega
      have q2 : ¬ 4096 < (nL : Int) := by omega
      by_cases h5 : (p : Int) < (nL : Int)
      · have HE : Hid (z = 2) := by unfold Hid; rw [HZ.out, fz6, if_pos (by omega)]
        clear h4
        go_enter Tryd.func35, Tryd.ntmps35
        go_wp2_with fail
        rw [← hW0, ← hC]
        clear hW0 hC
        refine wp_region_still_lit hmx (by kernel_rfl) ?_
        repeat still_step
        still_call HPC.out
        repeat still_step
        refine wpStill_nil ?_
        go_wp2_with fail
        go_ret
        exact ⟨by rw [HE.out]; rfl, HB0.out.drew⟩
      · have h6 : ¬ (p : Int) < (nL : Int) := h5
        have HNF : Hid (¬ (size < 0 ∨ 65536 < size ∨ nL = 0 ∨ 4096 < nL ∨ (p : Int) < (nL : Int))) := by unfold Hid; omega
        clear h5 h4
        by_cases h7 : limit < 0 ∨ 16384 < limit
        · have HE : Hid (z = 3) := by unfold Hid; rw [HZ.out, fz6, if_neg HNF.out, if_pos h7]
          by_cases h8 : limit < 0
          · clear h7
            go_enter Tryd.func35, Tryd.ntmps35
            go_wp2_with fail
            rw [← hW0, ← hC]
            clear hW0 hC
            refine wp_region_still_lit hmx (by kernel_rfl) ?_
            repeat still_step
            still_call HPC.out
            repeat still_step
            refine wpStill_nil ?_
            go_wp2_with fail
            go_ret
            exact ⟨by rw [HE.out]; rfl, HB0.out.drew⟩
          · have h9 : 16384 < limit := by omega
            clear h7
            go_enter Tryd.func35, Tryd.ntmps35
            go_wp2_with fail
            rw [← hW0, ← hC]
            clear hW0 hC
            refine wp_region_still_lit hmx (by kernel_rfl) ?_
            repeat still_step
            still_call HPC.out
            repeat still_step
            refine wpStill_nil ?_
            go_wp2_with fail
            go_ret
            exact ⟨by rw [HE.out]; rfl, HB0.out.drew⟩
        · have HE : Hid (z = 0) := by unfold Hid; rw [HZ.out, fz6, if_neg HNF.out, if_neg h7]
          have h8 : ¬ limit < 0 := by omega
          have h9 : ¬ 16384 < limit := by omega
          clear h7
          go_enter Tryd.func35, Tryd.ntmps35
          go_wp2_with fail
          rw [← hW0, ← hC]
          clear hW0 hC
          refine wp_region_still_lit hmx (by kernel_rfl) ?_
          repeat still_step
          still_call HPC.out
          repeat still_step
          refine wpStill_nil ?_
          go_wp2_with fail
          go_ret
          exact ⟨by rw [HE.out]; rfl, HB0.out.drew⟩

end Go.Proofs.YtoodjpkflcbfdaiDoor

namespace Go.Proofs.YtoodjpkflcbfdaiDoor
open Go.RowKit Go.Maps

theorem fr23 (a b c v : Value) : (#[a, b, c] ++ (Array.replicate 20 undef).setIfInBounds 5 v : Array Value) = #[a, b, c, undef, undef, undef, undef, undef, v, undef, undef, undef, undef, undef, undef, undef, undef, undef, undef, undef, undef, undef, undef] := by kernel_rfl
theorem eq_nil (w : World) : (binOp BinOp.eql 20 .nilIface .nilIface).run Tryd.prog w = .ok (.bool true) w := by kernel_rfl

set_option maxRecDepth 100000 in
set_option maxHeartbeats 400000 in
theorem catch_idle (p q r : Addr) (w : World) :
    CallsD Tryd.prog 36 #[.pointer (some p), .pointer (some q), .pointer (some r)] .returning w fun e u' w' => e = .returned (.tuple #[]) ∧ u' = .returning ∧ w' = w := by
  refine callsD_of_wpS Tryd.func36 rfl fun c₀ cs hu => ?_
  have hnil := eq_nil
  apply wpS_seq
  apply wpS_region
  simp [wpOpsS, go_sem, recoverD, hu, Tryd.ntmps36, Exit.thenS]
  rw [fr23]
  refine wpS_of_wp ?_
  go_wp2_with fail
  cases c₀
  simp_all [bodyPostS, results, Tryd.results36]

theorem frozen_alloc_old (w : World) (o : Obj) {p : Addr} (h : p.block < w.heap.size) : (w.alloc o).frozen? p = w.frozen? p := by
  have e : (w.alloc o).heap[p.block]? = w.heap[p.block]? := heap_alloc_old w o h
  unfold World.frozen?
  rw [e]
theorem ne_nil (T : TypeId) (w : World) : (binOp BinOp.eql 20 (.iface T (.agg #[])) .nilIface).run Tryd.prog w = .ok (.bool false) w := by kernel_rfl
theorem ta_blank_blank (w : World) : (Instr.typeAssert (.iface 104 (.agg #[])) 20 104 true).run Tryd.prog w = .ok (.tuple #[.agg #[], .bool true]) w := by kernel_rfl
theorem ta_blank_stuck (w : World) : (Instr.typeAssert (.iface 104 (.agg #[])) 20 105 true).run Tryd.prog w = .ok (.tuple #[.agg #[], .bool false]) w := by kernel_rfl
theorem ta_blank_long (w : World) : (Instr.typeAssert (.iface 104 (.agg #[])) 20 106 true).run Tryd.prog w = .ok (.tuple #[.agg #[], .bool false]) w := by kernel_rfl
theorem ta_stuck_blank (w : World) : (Instr.typeAssert (.iface 105 (.agg #[])) 20 104 true).run Tryd.prog w = .ok (.tuple #[.agg #[], .bool false]) w := by kernel_rfl
theorem ta_stuck_stuck (w : World) : (Instr.typeAssert (.iface 105 (.agg #[])) 20 105 true).run Tryd.prog w = .ok (.tuple #[.agg #[], .bool true]) w := by kernel_rfl
theorem ta_stuck_long (w : World) : (Instr.typeAssert (.iface 105 (.agg #[])) 20 106 true).run Tryd.prog w = .ok (.tuple #[.agg #[], .bool false]) w := by kernel_rfl
theorem ta_long_blank (w : World) : (Instr.typeAssert (.iface 106 (.agg #[])) 20 104 true).run Tryd.prog w = .ok (.tuple #[.agg #[], .bool false]) w := by kernel_rfl
theorem ta_long_stuck (w : World) : (Instr.typeAssert (.iface 106 (.agg #[])) 20 105 true).run Tryd.prog w = .ok (.tuple #[.agg #[], .bool false]) w := by kernel_rfl
theorem ta_long_long (w : World) : (Instr.typeAssert (.iface 106 (.agg #[])) 20 106 true).run Tryd.prog w = .ok (.tuple #[.agg #[], .bool true]) w := by kernel_rfl

set_option maxRecDepth 100000 in
set_option maxHeartbeats 400000 in
theorem catch_blank (P Q R : Nat) (a b c : Value) (w : World) (h1 : w.cell? ⟨P, 0, none⟩ = some a) (h2 : w.cell? ⟨Q, 0, none⟩ = some b) (h3 : w.cell? ⟨R, 0, none⟩ = some c) (f1 : w.frozen? ⟨P, 0, none⟩ = false) (f2 : w.frozen? ⟨Q, 0, none⟩ = false) (f3 : w.frozen? ⟨R, 0, none⟩ = false) (hPQ : P ≠ Q) (hPR : P ≠ R) (hQR : Q ≠ R) :
    CallsD Tryd.prog 36 #[.pointer (some ⟨P, 0, none⟩), .pointer (some ⟨Q, 0, none⟩), .pointer (some ⟨R, 0, none⟩)] (.panicking [{ v := .iface 104 (.agg #[]), recovered := false }]) w fun e u' w' => e = .returned (.tuple #[]) ∧ u' = .panicking [{ v := .iface 104 (.agg #[]), recovered := true }] ∧ w' = ((((w.alloc (.cells #[] 104)).setCell ⟨P, 0, none⟩ (.slice none 0 0)).setCell ⟨Q, 0, none⟩ (.map none)).setCell ⟨R, 0, none⟩ (.iface 68 (.int .i64 10))) := by
  refine callsD_of_wpS Tryd.func36 rfl fun c₀ cs hu => ?_
  have hnil := ne_nil
  have ta_blank := ta_blank_blank
  have ta_stuck := ta_blank_stuck
  have ta_long := ta_blank_long
  have k1 : (w.alloc (.cells #[] 104)).cell? ⟨P, 0, none⟩ = some a := (((Below.refl w.heap.size w).alloc (Nat.le_refl _) _).cell (p := ⟨P, 0, none⟩) (World.block_lt_of_cell? _ _ h1)).trans h1
  have m1 : (w.alloc (.cells #[] 104)).frozen? ⟨P, 0, none⟩ = false := by rw [frozen_alloc_old w _ (World.block_lt_of_cell? _ _ h1)]; exact f1
  have k2 : (w.alloc (.cells #[] 104)).cell? ⟨Q, 0, none⟩ = some b := (((Below.refl w.heap.size w).alloc (Nat.le_refl _) _).cell (p := ⟨Q, 0, none⟩) (World.block_lt_of_cell? _ _ h2)).trans h2
  have m2 : (w.alloc (.cells #[] 104)).frozen? ⟨Q, 0, none⟩ = false := by rw [frozen_alloc_old w _ (World.block_lt_of_cell? _ _ h2)]; exact f2
  have k3 : (w.alloc (.cells #[] 104)).cell? ⟨R, 0, none⟩ = some c := (((Below.refl w.heap.size w).alloc (Nat.le_refl _) _).cell (p := ⟨R, 0, none⟩) (World.block_lt_of_cell? _ _ h3)).trans h3
  have m3 : (w.alloc (.cells #[] 104)).frozen? ⟨R, 0, none⟩ = false := by rw [frozen_alloc_old w _ (World.block_lt_of_cell? _ _ h3)]; exact f3
  clear h1 h2 h3 f1 f2 f3
  apply wpS_seq
  apply wpS_region
  simp [wpOpsS, go_sem, recoverD, hu, Tryd.ntmps36, Exit.thenS]
  rw [fr23]
  refine wpS_of_wp ?_
  go_wp2_with fail
  simp [bodyPostS, results, Tryd.results36]

set_option maxRecDepth 100000 in
set_option maxHeartbeats 400000 in
theorem catch_stuck (P Q R : Nat) (a b c : Value) (w : World) (h1 : w.cell? ⟨P, 0, none⟩ = some a) (h2 : w.cell? ⟨Q, 0, none⟩ = some b) (h3 : w.cell? ⟨R, 0, none⟩ = some c) (f1 : w.frozen? ⟨P, 0, none⟩ = false) (f2 : w.frozen? ⟨Q, 0, none⟩ = false) (f3 : w.frozen? ⟨R, 0, none⟩ = false) (hPQ : P ≠ Q) (hPR : P ≠ R) (hQR : Q ≠ R) :
    CallsD Tryd.prog 36 #[.pointer (some ⟨P, 0, none⟩), .pointer (some ⟨Q, 0, none⟩), .pointer (some ⟨R, 0, none⟩)] (.panicking [{ v := .iface 105 (.agg #[]), recovered := false }]) w fun e u' w' => e = .returned (.tuple #[]) ∧ u' = .panicking [{ v := .iface 105 (.agg #[]), recovered := true }] ∧ w' = ((((w.alloc (.cells #[] 105)).setCell ⟨P, 0, none⟩ (.slice none 0 0)).setCell ⟨Q, 0, none⟩ (.map none)).setCell ⟨R, 0, none⟩ (.iface 68 (.int .i64 7))) := by
  refine callsD_of_wpS Tryd.func36 rfl fun c₀ cs hu => ?_
  have hnil := ne_nil
  have ta_blank := ta_stuck_blank
  have ta_stuck := ta_stuck_stuck
  have ta_long := ta_stuck_long
  have k1 : (w.alloc (.cells #[] 105)).cell? ⟨P, 0, none⟩ = some a := (((Below.refl w.heap.size w).alloc (Nat.le_refl _) _).cell (p := ⟨P, 0, none⟩) (World.block_lt_of_cell? _ _ h1)).trans h1
  have m1 : (w.alloc (.cells #[] 105)).frozen? ⟨P, 0, none⟩ = false := by rw [frozen_alloc_old w _ (World.block_lt_of_cell? _ _ h1)]; exact f1
  have k2 : (w.alloc (.cells #[] 105)).cell? ⟨Q, 0, none⟩ = some b := (((Below.refl w.heap.size w).alloc (Nat.le_refl _) _).cell (p := ⟨Q, 0, none⟩) (World.block_lt_of_cell? _ _ h2)).trans h2
  have m2 : (w.alloc (.cells #[] 105)).frozen? ⟨Q, 0, none⟩ = false := by rw [frozen_alloc_old w _ (World.block_lt_of_cell? _ _ h2)]; exact f2
  have k3 : (w.alloc (.cells #[] 105)).cell? ⟨R, 0, none⟩ = some c := (((Below.refl w.heap.size w).alloc (Nat.le_refl _) _).cell (p := ⟨R, 0, none⟩) (World.block_lt_of_cell? _ _ h3)).trans h3
  have m3 : (w.alloc (.cells #[] 105)).frozen? ⟨R, 0, none⟩ = false := by rw [frozen_alloc_old w _ (World.block_lt_of_cell? _ _ h3)]; exact f3
  clear h1 h2 h3 f1 f2 f3
  apply wpS_seq
  apply wpS_region
  simp [wpOpsS, go_sem, recoverD, hu, Tryd.ntmps36, Exit.thenS]
  rw [fr23]
  refine wpS_of_wp ?_
  go_wp2_with fail
  simp [bodyPostS, results, Tryd.results36]

set_option maxRecDepth 100000 in
set_option maxHeartbeats 400000 in
theorem catch_long (P Q R : Nat) (a b c : Value) (w : World) (h1 : w.cell? ⟨P, 0, none⟩ = some a) (h2 : w.cell? ⟨Q, 0, none⟩ = some b) (h3 : w.cell? ⟨R, 0, none⟩ = some c) (f1 : w.frozen? ⟨P, 0, none⟩ = false) (f2 : w.frozen? ⟨Q, 0, none⟩ = false) (f3 : w.frozen? ⟨R, 0, none⟩ = false) (hPQ : P ≠ Q) (hPR : P ≠ R) (hQR : Q ≠ R) :
    CallsD Tryd.prog 36 #[.pointer (some ⟨P, 0, none⟩), .pointer (some ⟨Q, 0, none⟩), .pointer (some ⟨R, 0, none⟩)] (.panicking [{ v := .iface 106 (.agg #[]), recovered := false }]) w fun e u' w' => e = .returned (.tuple #[]) ∧ u' = .panicking [{ v := .iface 106 (.agg #[]), recovered := true }] ∧ w' = ((((w.alloc (.cells #[] 106)).setCell ⟨P, 0, none⟩ (.slice none 0 0)).setCell ⟨Q, 0, none⟩ (.map none)).setCell ⟨R, 0, none⟩ (.iface 68 (.int .i64 8))) := by
  refine callsD_of_wpS Tryd.func36 rfl fun c₀ cs hu => ?_
  have hnil := ne_nil
  have ta_blank := ta_long_blank
  have ta_stuck := ta_long_stuck
  have ta_long := ta_long_long
  have k1 : (w.alloc (.cells #[] 106)).cell? ⟨P, 0, none⟩ = some a := (((Below.refl w.heap.size w).alloc (Nat.le_refl _) _).cell (p := ⟨P, 0, none⟩) (World.block_lt_of_cell? _ _ h1)).trans h1
  have m1 : (w.alloc (.cells #[] 106)).frozen? ⟨P, 0, none⟩ = false := by rw [frozen_alloc_old w _ (World.block_lt_of_cell? _ _ h1)]; exact f1
  have k2 : (w.alloc (.cells #[] 106)).cell? ⟨Q, 0, none⟩ = some b := (((Below.refl w.heap.size w).alloc (Nat.le_refl _) _).cell (p := ⟨Q, 0, none⟩) (World.block_lt_of_cell? _ _ h2)).trans h2
  have m2 : (w.alloc (.cells #[] 106)).frozen? ⟨Q, 0, none⟩ = false := by rw [frozen_alloc_old w _ (World.block_lt_of_cell? _ _ h2)]; exact f2
  have k3 : (w.alloc (.cells #[] 106)).cell? ⟨R, 0, none⟩ = some c := (((Below.refl w.heap.size w).alloc (Nat.le_refl _) _).cell (p := ⟨R, 0, none⟩) (World.block_lt_of_cell? _ _ h3)).trans h3
  have m3 : (w.alloc (.cells #[] 106)).frozen? ⟨R, 0, none⟩ = false := by rw [frozen_alloc_old w _ (World.block_lt_of_cell? _ _ h3)]; exact f3
  clear h1 h2 h3 f1 f2 f3
  apply wpS_seq
  apply wpS_region
  simp [wpOpsS, go_sem, recoverD, hu, Tryd.ntmps36, Exit.thenS]
  rw [fr23]
  refine wpS_of_wp ?_
  go_wp2_with fail
  simp [bodyPostS, results, Tryd.results36]

end Go.Proofs.YtoodjpkflcbfdaiDoor

namespace Go.Proofs.YtoodjpkflcbfdaiDoor
open Go.RowKit Go.Maps

/-- how walked ends -/
def WdR (p : Nat) (size : Int) (L : List InsZ) (limit : Int) (w : World) (e : Ending) (w' : World) : Prop := Below w.heap.size w w' ∧
  if fz6 (p : Int) size L.length limit ≠ 0 then e = .returned (.tuple #[.slice none 0 0, .map none, errV (fz6 (p : Int) size L.length limit)])
  else match mwalk p size L limit.toNat with
    | .bad z => e = .returned (.tuple #[.slice none 0 0, .map none, errV z])
    | .good l cs => ∃ v B, e = .returned (.tuple #[v, .map (some B), .nilIface]) ∧ StR w.heap.size w' v l ∧ MapAt w' B (1 + 2 * l.length) cs
/-- what stands in walked: the code, and what is to be given -/
structure WdS (C : Nat) (size : Int) (aL : Option Addr) (nL cL : Nat) (v1 v2 v3 : Value) (w W : World) : Prop where
  c : W.heap[C]? = some (.cells #[.int .i64 size, .slice aL nL cL] 24 (0, 0))
  s1 : W.heap[C + 1]? = some (.cells #[v1] 42 (0, 0))
  s2 : W.heap[C + 2]? = some (.cells #[v2] 62 (0, 0))
  s3 : W.heap[C + 3]? = some (.cells #[v3] 33 (0, 0))
  bel : Below w.heap.size w W
  hC : w.heap.size ≤ C

theorem wdS_of (size : Int) (aL : Option Addr) (nL cL : Nat) (w : World) : WdS w.heap.size size aL nL cL (.slice none 0 0) (.map none) .nilIface w ((((w.alloc (.cells #[.int .i64 size, .slice aL nL cL] 24)).alloc (.cells #[.slice none 0 0] 42)).alloc (.cells #[.map none] 62)).alloc (.cells #[.nilIface] 33)) := by
  obtain ⟨V1, h1⟩ : ∃ V, V = w.alloc (.cells #[.int .i64 size, .slice aL nL cL] 24) := ⟨_, rfl⟩
  obtain ⟨V2, h2⟩ : ∃ V, V = V1.alloc (.cells #[.slice none 0 0] 42) := ⟨_, rfl⟩
  obtain ⟨V3, h3⟩ : ∃ V, V = V2.alloc (.cells #[.map none] 62) := ⟨_, rfl⟩
  rw [← h1, ← h2, ← h3]
  have e1 : V1.heap.size = w.heap.size + 1 := by rw [h1]; simp
  have e2 : V2.heap.size = w.heap.size + 2 := by rw [h2]; simp [e1]
  have e3 : V3.heap.size = w.heap.size + 3 := by rw [h3]; simp [e2]
  have b1 : Below w.heap.size w V1 := by rw [h1]; exact (Below.refl _ _).alloc (Nat.le_refl _) _
  have b2 : Below V1.heap.size V1 V2 := by rw [h2]; exact (Below.refl _ _).alloc (Nat.le_refl _) _
  have b3 : Below V2.heap.size V2 V3 := by rw [h3]; exact (Below.refl _ _).alloc (Nat.le_refl _) _
  have b4 : Below V3.heap.size V3 (V3.alloc (.cells #[.nilIface] 33)) := (Below.refl _ _).alloc (Nat.le_refl _) _
  have n1 : V1.heap[w.heap.size]? = some (.cells #[.int .i64 size, .slice aL nL cL] 24 (0, 0)) := by rw [h1]; exact heap_alloc_new w _
  have n2 : V2.heap[w.heap.size + 1]? = some (.cells #[.slice none 0 0] 42 (0, 0)) := by rw [← e1, h2]; exact heap_alloc_new V1 _
  have n3 : V3.heap[w.heap.size + 2]? = some (.cells #[.map none] 62 (0, 0)) := by rw [← e2, h3]; exact heap_alloc_new V2 _
  exact ⟨(b4.block _ (by omega)).trans ((b3.block _ (by omega)).trans ((b2.block _ (by omega)).trans n1)), (b4.block _ (by omega)).trans ((b3.block _ (by omega)).trans n2), (b4.block _ (by omega)).trans n3, by rw [← e3]; exact heap_alloc_new V3 _, b1.trans ((b2.mono (by omega)).trans ((b3.mono (by omega)).trans (b4.mono (by omega)))), Nat.le_refl _⟩
section
variable {C : Nat} {size : Int} {aL : Option Addr} {nL cL : Nat} {v1 v2 v3 : Value} {w W W' : World}
theorem WdS.step (h : WdS C size aL nL cL v1 v2 v3 w W) (e : Below W.heap.size W W') : WdS C size aL nL cL v1 v2 v3 w W' :=
  ⟨(e.block _ (Array.getElem?_eq_some_iff.1 h.c).1).trans h.c, (e.block _ (Array.getElem?_eq_some_iff.1 h.s1).1).trans h.s1, (e.block _ (Array.getElem?_eq_some_iff.1 h.s2).1).trans h.s2, (e.block _ (Array.getElem?_eq_some_iff.1 h.s3).1).trans h.s3, h.bel.trans (e.mono h.bel.size), h.hC⟩
end
theorem one_row {W : World} {g : Nat} {t : TypeId} {v : Value} (h : W.heap[g]? = some (.cells #[v] t (0, 0))) : W.rowIs g t 1 (fun _ => v) := ⟨_, h, rfl, fun i hi => by
    have : i = 0 := by omega
    rw [this]
    rfl⟩
theorem one_cell {W : World} {g : Nat} {t : TypeId} {v : Value} (h : W.heap[g]? = some (.cells #[v] t (0, 0))) : W.cell? ⟨g, 0, none⟩ = some v := by simp [World.cell?, h]
theorem one_set {W : World} {g : Nat} {t : TypeId} {v : Value} (h : W.heap[g]? = some (.cells #[v] t (0, 0))) (x : Value) : (W.setCell ⟨g, 0, none⟩ x).heap[g]? = some (.cells #[x] t (0, 0)) := by
  obtain ⟨c, hb, hs, hc⟩ := (one_row h).set 0 x
  rw [hb]
  congr 2
  apply Array.ext
  · simpa using hs
  · intro i h1 h2
    have hi : i = 0 := by simp at h2; omega
    subst hi
    have := hc 0 (by omega)
    rw [Array.getElem?_eq_getElem h1] at this
    injection this
/-- the three cells written -/
theorem WdS.put {C : Nat} {size : Int} {aL : Option Addr} {nL cL : Nat} {v1 v2 v3 : Value} {w W : World} (h : WdS C size aL nL cL v1 v2 v3 w W) (x y z : Value) : WdS C size aL nL cL x y z w (((W.setCell ⟨C + 1, 0, none⟩ x).setCell ⟨C + 2, 0, none⟩ y).setCell ⟨C + 3, 0, none⟩ z) := by
  have o1 : ∀ (V : World) (k g : Nat) (u : Value), k ≠ g → (V.setCell ⟨g, 0, none⟩ u).heap[k]? = V.heap[k]? := fun V k g u hk => Below.heap_setCell _ _ _ _ hk
  have hc := h.hC
  refine ⟨?_, ?_, ?_, ?_, ⟨h.bel.os, h.bel.tape, h.bel.output, by simpa [World.setCell] using h.bel.size, fun k hk => ?_⟩, h.hC⟩
  · rw [o1 _ _ _ _ (by omega), o1 _ _ _ _ (by omega), o1 _ _ _ _ (by omega)]; exact h.c
  · rw [o1 _ _ _ _ (by omega), o1 _ _ _ _ (by omega)]; exact one_set h.s1 x
  · rw [o1 _ _ _ _ (by omega)]; exact one_set (by rw [o1 _ _ _ _ (by omega)]; exact h.s2) y
  · exact one_set (by rw [o1 _ _ _ _ (by omega), o1 _ _ _ _ (by omega)]; exact h.s3) z
  · rw [o1 _ _ _ _ (by omega), o1 _ _ _ _ (by omega), o1 _ _ _ _ (by omega)]; exact h.bel.block k hk

set_option maxRecDepth 100000 in
set_option maxHeartbeats 2000000 in
theorem pwalked_bad (p b : Nat) (size limit : Int) (aL : Option Addr) (cL : Nat) (L : List InsZ) (w : World) (hp : w.cell? ⟨b, 0, none⟩ = some (.int .i64 p)) (hn : L.length ≤ 281474976710656) (hz : fz6 (p : Int) size L.length limit ≠ 0) :
    Calls Tryd.prog 23 #[.pointer (some ⟨b, 0, none⟩), .agg #[.int .i64 size, .slice aL L.length cL], .int .i64 limit] w (WdR p size L limit w) := by
  have hmf : ∀ (fn : Fn) (first cap : Array Value) (w : World), (Instr.makeFunc fn first cap).run Tryd.prog w = .ok (.func fn first cap) w := fun _ _ _ _ => rfl
  obtain ⟨z, hzz⟩ : ∃ z, z = fz6 (p : Int) size L.length limit := ⟨_, rfl⟩
  obtain ⟨nL, hnL⟩ : ∃ nL, nL = L.length := ⟨_, rfl⟩
  have HW0 := hid (wdS_of size aL nL cL w)
  have HER : Hid (errV z = .iface 68 (.int .i64 z)) := by unfold Hid errV; rw [if_neg (by rw [hzz]; exact hz)]
  have HWR := hid (pwrong_any p b size limit aL nL cL ((((w.alloc (.cells #[.int .i64 size, .slice aL nL cL] 24)).alloc (.cells #[.slice none 0 0] 42)).alloc (.cells #[.map none] 62)).alloc (.cells #[.nilIface] 33)) ((HW0.out.bel.cell (p := ⟨b, 0, none⟩) (World.block_lt_of_cell? _ _ hp)).trans hp) (by omega))
  rw [hnL, ← hzz, ← hnL, HER.out] at HWR
  have HRR : Hid (∀ w', Below w.heap.size w w' → WdR p size L limit w (.returned (.tuple #[.slice none 0 0, .map none, .iface 68 (.int .i64 z)])) w') := fun w' hb => by
    refine ⟨hb, ?_⟩
    rw [if_pos hz, ← hzz, HER.out]
  obtain ⟨W0, hW0⟩ : ∃ W0, W0 = (((w.alloc (.cells #[.int .i64 size, .slice aL nL cL] 24)).alloc (.cells #[.slice none 0 0] 42)).alloc (.cells #[.map none] 62)).alloc (.cells #[.nilIface] 33) := ⟨_, rfl⟩
  rw [← hW0] at HW0 HWR
  rw [← hnL]
  obtain ⟨C, hC⟩ : ∃ C, C = w.heap.size := ⟨_, rfl⟩
  rw [← hC] at HW0
  clear hz hzz hp hn hnL HER
  go_enter_defers Tryd.func23, Tryd.ntmps23
  go_wp2_with fail
  rw [← hW0]
  refine HWR.out.mono ?_
  rintro e w1 ⟨rfl, hb1⟩
  have HW1 := hid (HW0.out.step hb1)
  rw [← hC]
  have k1 := one_cell HW1.out.s1
  have k2 := one_cell HW1.out.s2
  have k3 := one_cell HW1.out.s3
  have m1 := (one_row HW1.out.s1).frozen
  have m2 := (one_row HW1.out.s2).frozen
  have m3 := (one_row HW1.out.s3).frozen
  obtain ⟨V, hV⟩ : ∃ V, V = ((w1.setCell ⟨C + 1, 0, none⟩ (.slice none 0 0)).setCell ⟨C + 1 + 1, 0, none⟩ (.map none)).setCell ⟨C + 1 + 1 + 1, 0, none⟩ (.iface 68 (.int .i64 z)) := ⟨_, rfl⟩
  have HE1 : Hid (WdS C size aL nL cL (.slice none 0 0) (.map none) (.iface 68 (.int .i64 z)) w V) := by unfold Hid; rw [hV]; exact HW1.out.put (.slice none 0 0) (.map none) (.iface 68 (.int .i64 z))
  clear hb1 HW0 HWR hW0 hC
  go_wp2_with fail
  rw [← hV]
  have e1 : V.cell? ⟨C + 1, 0, none⟩ = some (.slice none 0 0) := one_cell HE1.out.s1
  have e2 : V.cell? ⟨C + 1 + 1, 0, none⟩ = some (.map none) := one_cell HE1.out.s2
  have e3 : V.cell? ⟨C + 1 + 1 + 1, 0, none⟩ = some (.iface 68 (.int .i64 z)) := one_cell HE1.out.s3
  have hE := HRR.out V HE1.out.bel
  clear hV HE1 HRR HW1 k1 k2 k3 m1 m2 m3
  simp [bodyPostD, Leaves, results, Tryd.results23, go_sem, e1, e2, e3]
  exact hE

/-- how a run that begins ends: steps, then what is deferred -/
theorem errV_nz {z : Int} (h : z ≠ 0) : errV z = .iface 68 (.int .i64 z) := by unfold errV; rw [if_neg h]
theorem zer_first : Zer [(0, 0)] := ⟨by decide, by decide⟩
theorem csB_first {p : Nat} (h3 : 3 ≤ p) : CsB p [(0, 0)] := fun j hj => by
  have : j = 0 := by simp at hj; omega
  subst this
  show (0 : Int) ≤ 0 ∧ (0 : Int) < p
  omega

theorem leaves_same {P : Program} {fn : Func} {t1 t2 : Array Value} {R : Ending → World → Prop} (hr : results fn t1 = results fn t2) : ∀ (ds : List Deferred) (u : FrameMode) (w : World), Leaves P fn t1 R ds u w → Leaves P fn t2 R ds u w
  | [], .returning, w, h => by
    obtain ⟨v, h1, h2⟩ := h
    exact ⟨v, by rw [← hr]; exact h1, h2⟩
  | [], .panicking _, _, h => h
  | [], .run, _, h => h
  | d :: ds, u, w, h => by
    obtain ⟨h1, fv, cap, f, args, h2, h3, h4⟩ := h
    refine ⟨h1, fv, cap, f, args, h2, h3, h4.mono ?_⟩
    rintro e u' w' he
    cases e with
    | returned v => exact leaves_same hr ds _ _ he
    | panicked c => exact leaves_same hr ds _ _ he
    | outgrown => exact he
theorem res_put (t : Array Value) (d : Nat) (v : Value) (h6 : d ≠ 6) (h7 : d ≠ 7) (h8 : d ≠ 8) : results Tryd.f23 (t.setIfInBounds d v) = results Tryd.f23 t := by
  have e : ∀ k, d ≠ k → (t.setIfInBounds d v)[k]? = t[k]? := fun k hk => Array.getElem?_setIfInBounds_ne hk
  simp [results, Tryd.results23, e 6 h6, e 7 h7, e 8 h8]
theorem panic_put {R : Ending → World → Prop} (d : Nat) (v : Value) (h6 : d ≠ 6) (h7 : d ≠ 7) (h8 : d ≠ 8) (c : List PanicEntry) (a : Act) (w : World) (h : bodyPostD Tryd.prog Tryd.f23 R (.panic c) (a.put (some d) v) w) : bodyPostD Tryd.prog Tryd.f23 R (.panic c) a w :=
  leaves_same (res_put a.tmps d v h6 h7 h8) _ _ _ h

set_option maxRecDepth 100000 in
set_option maxHeartbeats 2000000 in
theorem pwalked_good (p b : Nat) (size : Int) (limit : Nat) (aL : Option Addr) (cL : Nat) (L : List InsZ) (w : World) (h3 : 3 ≤ p) (h4 : p ≤ 2147483647) (hpr : Num.Prime p) (hp : w.cell? ⟨b, 0, none⟩ = some (.int .i64 p)) (hz : fz6 (p : Int) size L.length (limit : Int) = 0) (hL : LstI w.heap.size w aL cL L) (hIB : InsB L) :
    Calls Tryd.prog 23 #[.pointer (some ⟨b, 0, none⟩), .agg #[.int .i64 size, .slice aL L.length cL], .int .i64 (limit : Int)] w (WdR p size L (limit : Int) w) := by
  have hmf : ∀ (fn : Fn) (first cap : Array Value) (w : World), (Instr.makeFunc fn first cap).run Tryd.prog w = .ok (.func fn first cap) w := fun _ _ _ _ => rfl
  have hfz : 0 ≤ size ∧ size ≤ 65536 ∧ L.length ≤ 4096 ∧ limit ≤ 16384 := by
    unfold fz6 at hz
    split at hz
    · omega
    · split at hz
      · omega
      · rename_i h1 h2
        refine ⟨by omega, by omega, by omega, by omega⟩
  obtain ⟨X, hX⟩ : ∃ X, X = mwalk p size L limit := ⟨_, rfl⟩
  have HX := hid hX
  have HWD : Hid (∀ e w', Below w.heap.size w w' → (match X with
    | .bad z => e = .returned (.tuple #[.slice none 0 0, .map none, errV z])
    | .good l cs => ∃ v B, e = .returned (.tuple #[v, .map (some B), .nilIface]) ∧ StR w.heap.size w' v l ∧ MapAt w' B (1 + 2 * l.length) cs) → WdR p size L (limit : Int) w e w') := fun e w' hb hh => by
    refine ⟨hb, ?_⟩
    rw [if_neg (by rw [hz]; exact fun h => h rfl), Int.toNat_natCast, ← hX]
    exact hh
  obtain ⟨nL, hnL⟩ : ∃ nL, nL = L.length := ⟨_, rfl⟩
  have HNL := hid hnL
  have HW0 := hid (wdS_of size aL nL cL w)
  have hp0 := (HW0.out.bel.cell (p := ⟨b, 0, none⟩) (World.block_lt_of_cell? _ _ hp)).trans hp
  have HWR := hid (pwrong_any p b size (limit : Int) aL nL cL ((((w.alloc (.cells #[.int .i64 size, .slice aL nL cL] 24)).alloc (.cells #[.slice none 0 0] 42)).alloc (.cells #[.map none] 62)).alloc (.cells #[.nilIface] 33)) hp0 (by omega))
  rw [hnL, hz, ← hnL, show errV 0 = .nilIface by rfl] at HWR
  obtain ⟨W0, hW0⟩ : ∃ W0, W0 = (((w.alloc (.cells #[.int .i64 size, .slice aL nL cL] 24)).alloc (.cells #[.slice none 0 0] 42)).alloc (.cells #[.map none] 62)).alloc (.cells #[.nilIface] 33) := ⟨_, rfl⟩
  rw [← hW0] at HW0 HWR
  rw [← hnL]
  obtain ⟨C, hC⟩ : ∃ C, C = w.heap.size := ⟨_, rfl⟩
  rw [← hC] at HW0
  have HCC := hid hC
  have HBL := hid (World.block_lt_of_cell? _ _ hp)
  have HP := hid hp
  have HLL := hid hL
  have HIB := hid hIB
  have HPR := hid hpr
  have HSZ := hid hfz
  clear hz hp hp0 hnL hX hL hIB hpr hfz
  go_enter_defers Tryd.func23, Tryd.ntmps23
  go_wp2_with fail
  rw [← hW0]
  refine HWR.out.mono ?_
  rintro e w1 ⟨rfl, hb1⟩
  have HW1 := hid (HW0.out.step hb1)
  rw [← hC]
  have k0 : w1.cell? ⟨C, 0, none⟩ = some (.int .i64 size) := by simp [World.cell?, HW1.out.c]
  have k1 : w1.cell? ⟨C, 1, none⟩ = some (.slice aL nL cL) := by simp [World.cell?, HW1.out.c]
  have HBG := hid (pbegun_any p b size aL nL cL w1 h3 h4 ((HW1.out.bel.cell (p := ⟨b, 0, none⟩) HBL.out).trans HP.out) ⟨HSZ.out.1, HSZ.out.2.1⟩)
  clear hb1 HW0 HWR hW0 hC
  go_wp2_with fail
  refine HBG.out.mono ?_
  rintro e w2 ⟨R, B, rfl, hr2, hm2, hRw, hBw, hb2⟩
  have HD2 := hid (HW1.out.step hb2)
  have hpw := (HD2.out.bel.cell (p := ⟨b, 0, none⟩) HBL.out).trans HP.out
  have HRG : Hid (RgB p ⟨0, 1, (1 + size) % (p : Int), 0⟩) := by
    have e := emod_bounds (1 + size) p h3
    refine ⟨⟨?_, ?_⟩, ⟨?_, ?_⟩, ⟨?_, ?_⟩, ⟨?_, ?_⟩⟩
    · show (0 : Int) ≤ 0; omega
    · show (0 : Int) < p; omega
    · show (0 : Int) ≤ 1; omega
    · show (1 : Int) < p; omega
    · show 0 ≤ (1 + size) % (p : Int); exact e.1
    · show (1 + size) % (p : Int) < p; exact e.2
    · show (0 : Int) ≤ 0; omega
    · show (0 : Int) < p; omega
  have hw1s := HW1.out.bel.size
  have HST : Hid (Calls Tryd.prog 38 #[.pointer (some ⟨R, 0, none⟩), .int .i64 (limit : Int)] w2.drew (PkR B R X w2.drew)) := by
    unfold Hid
    rw [HX.out]
    exact psteps_any p R b B cL limit w.heap.size aL L ⟨0, 1, (1 + size) % (p : Int), 0⟩ [(0, 0)] w2.drew h3 h4 HPR.out (by rw [← HNL.out]; exact hr2) hm2 hpw ((HLL.out.below HD2.out.bel).below ⟨rfl, rfl, rfl, Nat.le_refl _, fun _ _ => rfl⟩) HIB.out HSZ.out.2.2.2 (by omega) (by omega) HBL.out (csB_first h3) zer_first HRG.out
  have c2 : w2.cell? ⟨R, 2, none⟩ = some (.map (some B)) := hr2.cell (i := 2) (by decide)
  have HRB : Hid (C + 3 < R ∧ C + 3 < B) := by
    have := (Array.getElem?_eq_some_iff.1 HW1.out.s3).1
    exact ⟨by omega, by omega⟩
  have HDD : Hid (WdS C size aL nL cL (.slice none 0 0) (.map none) .nilIface w w2.drew) := HD2.out.step ⟨rfl, rfl, rfl, Nat.le_refl _, fun _ _ => rfl⟩
  have HS2 : Hid (C + 3 < w2.drew.heap.size ∧ w.heap.size ≤ w2.drew.heap.size) := ⟨(Array.getElem?_eq_some_iff.1 HDD.out.s3).1, HDD.out.bel.size⟩
  have HG3 : Hid (∀ w3 : World, Gr2 B R w2.drew w3 → WdS C size aL nL cL (.slice none 0 0) (.map none) .nilIface w w3) := fun w3 g => by
    have h1 := HRB.out
    have h2 := HDD.out.hC
    have h3 := HDD.out.bel
    have hs := (Array.getElem?_eq_some_iff.1 HDD.out.s3).1
    refine ⟨(g.block _ (by omega) (by omega) (by omega)).trans HDD.out.c, (g.block _ (by omega) (by omega) (by omega)).trans HDD.out.s1, (g.block _ (by omega) (by omega) (by omega)).trans HDD.out.s2, (g.block _ (by omega) (by omega) (by omega)).trans HDD.out.s3, h3.trans (g.to ?_ ?_ h3.size), h2⟩
    · omega
    · omega
  clear hr2 hm2 hRw hBw hb2 HBG HW1 k0 k1 hpw hw1s HD2 HRG HPR HLL HIB HP
  go_wp2_with fail
  refine wp_region_held_drew (S := (fun W => W.cell? ⟨R, 2, none⟩ = some (.map (some B)))) (by kernel_rfl) c2 (fun hHeld => ?_)
  refine wpAnyH_takeW (i := 0) (v := .pointer (some ⟨R, 0, none⟩)) rfl (by kernel_rfl) (by kernel_rfl) (by kernel_rfl) (fun c a w h => panic_put 22 _ (by decide) (by decide) (by decide) c a w h) (by rfl) (fun W hC => by go_simp) hHeld ?_
  simp only [Act.put, List.setIfInBounds_toArray, List.set_cons_zero, List.set_cons_succ]
  refine wpAnyH_takeW (i := 1) (v := .int .i64 (limit : Int)) rfl (by kernel_rfl) (by kernel_rfl) (by kernel_rfl) (fun c a w h => panic_put 23 _ (by decide) (by decide) (by decide) c a w h) (by rfl) (fun W hC => by go_simp) hHeld ?_
  simp only [Act.put, List.setIfInBounds_toArray, List.set_cons_zero, List.set_cons_succ]
  refine wpAnyH_takeW (i := 3) (v := .pointer (some ⟨R, 0, none⟩)) rfl (by kernel_rfl) (by kernel_rfl) (by kernel_rfl) (fun c a w h => panic_put 25 _ (by decide) (by decide) (by decide) c a w h) (by rfl) (fun W hC => by go_simp) hHeld ?_
  simp only [Act.put, List.setIfInBounds_toArray, List.set_cons_zero, List.set_cons_succ]
  refine wpAnyH_takeW (i := 4) (v := .pointer (some ⟨R, 0, none⟩)) rfl (by kernel_rfl) (by kernel_rfl) (by kernel_rfl) (fun c a w h => panic_put 26 _ (by decide) (by decide) (by decide) c a w h) (by rfl) (fun W hC => by go_simp) hHeld ?_
  simp only [Act.put, List.setIfInBounds_toArray, List.set_cons_zero, List.set_cons_succ]
  refine wpAnyH_takeW (i := 5) (v := .pointer (some ⟨R, 2, none⟩)) rfl (by kernel_rfl) (by kernel_rfl) (by kernel_rfl) (fun c a w h => panic_put 27 _ (by decide) (by decide) (by decide) c a w h) (by rfl) (fun W hC => by go_simp) hHeld ?_
  simp only [Act.put, List.setIfInBounds_toArray, List.set_cons_zero, List.set_cons_succ]
  refine wpAnyH_takeW (i := 6) (v := .map (some B)) rfl (by kernel_rfl) (by kernel_rfl) (by kernel_rfl) (fun c a w h => panic_put 28 _ (by decide) (by decide) (by decide) c a w h) (by rfl) (fun W hC => by go_simp) hHeld ?_
  simp only [Act.put, List.setIfInBounds_toArray, List.set_cons_zero, List.set_cons_succ]
  refine wpAnyH_ready (rs := [2]) (by kernel_rfl) (by simp) ?_
  refine AllReadyH.consW rfl (fun K hK => ?_) AllReadyH.nil
  go_simp
  refine HST.out.mono ?_
  rintro e w3 ⟨hg3, hx3⟩
  have HD3 := hid (HG3.out w3 hg3)
  clear HG3 HDD HST HX
  cases X with
  | bad z =>
    rcases hx3 with ⟨rfl, rfl⟩ | ⟨rfl, rfl⟩ | ⟨rfl, rfl⟩
    · have HK1 := one_cell HD3.out.s1
      have HK2 := one_cell HD3.out.s2
      have HK3 := one_cell HD3.out.s3
      refine leaves_cons (f := 36) (args := #[.pointer (some ⟨C + 1, 0, none⟩), .pointer (some ⟨C + 1 + 1, 0, none⟩), .pointer (some ⟨C + 1 + 1 + 1, 0, none⟩)]) (by simp) (by simp [go_sem]) ?_
      refine (catch_stuck (C + 1) (C + 1 + 1) (C + 1 + 1 + 1) _ _ _ w3 HK1 HK2 HK3 ((one_row HD3.out.s1).frozen 0) ((one_row HD3.out.s2).frozen 0) ((one_row HD3.out.s3).frozen 0) (by omega) (by omega) (by omega)).mono ?_
      rintro e u' w4 ⟨rfl, rfl, hw4⟩
      have HD4 : Hid (WdS C size aL nL cL (.slice none 0 0) (.map none) (.iface 68 (.int .i64 7)) w w4) := by
        unfold Hid
        rw [hw4]
        exact (HD3.out.step ((Below.refl _ _).alloc (Nat.le_refl _) _)).put _ _ _
      have e1 : w4.cell? ⟨C + 1, 0, none⟩ = some (.slice none 0 0) := one_cell HD4.out.s1
      have e2 : w4.cell? ⟨C + 1 + 1, 0, none⟩ = some (.map none) := one_cell HD4.out.s2
      have e3 : w4.cell? ⟨C + 1 + 1 + 1, 0, none⟩ = some (.iface 68 (.int .i64 7)) := one_cell HD4.out.s3
      have hE := HWD.out (.returned (.tuple #[.slice none 0 0, .map none, .iface 68 (.int .i64 7)])) w4 HD4.out.bel (show Ending.returned _ = Ending.returned (.tuple #[.slice none 0 0, .map none, errV 7]) from by rw [errV_nz (by decide)])
      clear hw4 HD4 HD3 HWD HK1 HK2 HK3
      simp [Leaves, settle, results, Tryd.results23, go_sem, e1, e2, e3]
      exact hE
    · have HK1 := one_cell HD3.out.s1
      have HK2 := one_cell HD3.out.s2
      have HK3 := one_cell HD3.out.s3
      refine leaves_cons (f := 36) (args := #[.pointer (some ⟨C + 1, 0, none⟩), .pointer (some ⟨C + 1 + 1, 0, none⟩), .pointer (some ⟨C + 1 + 1 + 1, 0, none⟩)]) (by simp) (by simp [go_sem]) ?_
      refine (catch_long (C + 1) (C + 1 + 1) (C + 1 + 1 + 1) _ _ _ w3 HK1 HK2 HK3 ((one_row HD3.out.s1).frozen 0) ((one_row HD3.out.s2).frozen 0) ((one_row HD3.out.s3).frozen 0) (by omega) (by omega) (by omega)).mono ?_
      rintro e u' w4 ⟨rfl, rfl, hw4⟩
      have HD4 : Hid (WdS C size aL nL cL (.slice none 0 0) (.map none) (.iface 68 (.int .i64 8)) w w4) := by
        unfold Hid
        rw [hw4]
        exact (HD3.out.step ((Below.refl _ _).alloc (Nat.le_refl _) _)).put _ _ _
      have e1 : w4.cell? ⟨C + 1, 0, none⟩ = some (.slice none 0 0) := one_cell HD4.out.s1
      have e2 : w4.cell? ⟨C + 1 + 1, 0, none⟩ = some (.map none) := one_cell HD4.out.s2
      have e3 : w4.cell? ⟨C + 1 + 1 + 1, 0, none⟩ = some (.iface 68 (.int .i64 8)) := one_cell HD4.out.s3
      have hE := HWD.out (.returned (.tuple #[.slice none 0 0, .map none, .iface 68 (.int .i64 8)])) w4 HD4.out.bel (show Ending.returned _ = Ending.returned (.tuple #[.slice none 0 0, .map none, errV 8]) from by rw [errV_nz (by decide)])
      clear hw4 HD4 HD3 HWD HK1 HK2 HK3
      simp [Leaves, settle, results, Tryd.results23, go_sem, e1, e2, e3]
      exact hE
    · have HK1 := one_cell HD3.out.s1
      have HK2 := one_cell HD3.out.s2
      have HK3 := one_cell HD3.out.s3
      refine leaves_cons (f := 36) (args := #[.pointer (some ⟨C + 1, 0, none⟩), .pointer (some ⟨C + 1 + 1, 0, none⟩), .pointer (some ⟨C + 1 + 1 + 1, 0, none⟩)]) (by simp) (by simp [go_sem]) ?_
      refine (catch_blank (C + 1) (C + 1 + 1) (C + 1 + 1 + 1) _ _ _ w3 HK1 HK2 HK3 ((one_row HD3.out.s1).frozen 0) ((one_row HD3.out.s2).frozen 0) ((one_row HD3.out.s3).frozen 0) (by omega) (by omega) (by omega)).mono ?_
      rintro e u' w4 ⟨rfl, rfl, hw4⟩
      have HD4 : Hid (WdS C size aL nL cL (.slice none 0 0) (.map none) (.iface 68 (.int .i64 10)) w w4) := by
        unfold Hid
        rw [hw4]
        exact (HD3.out.step ((Below.refl _ _).alloc (Nat.le_refl _) _)).put _ _ _
      have e1 : w4.cell? ⟨C + 1, 0, none⟩ = some (.slice none 0 0) := one_cell HD4.out.s1
      have e2 : w4.cell? ⟨C + 1 + 1, 0, none⟩ = some (.map none) := one_cell HD4.out.s2
      have e3 : w4.cell? ⟨C + 1 + 1 + 1, 0, none⟩ = some (.iface 68 (.int .i64 10)) := one_cell HD4.out.s3
      have hE := HWD.out (.returned (.tuple #[.slice none 0 0, .map none, .iface 68 (.int .i64 10)])) w4 HD4.out.bel (show Ending.returned _ = Ending.returned (.tuple #[.slice none 0 0, .map none, errV 10]) from by rw [errV_nz (by decide)])
      clear hw4 HD4 HD3 HWD HK1 HK2 HK3
      simp [Leaves, settle, results, Tryd.results23, go_sem, e1, e2, e3]
      exact hE
  | good l cs =>
    obtain ⟨v, rfl, hs3, hm3, hc3⟩ := hx3
    obtain ⟨av, nv, cv, rfl⟩ : ∃ a n c, v = .slice a n c := by
      rcases hs3.2 with ⟨h1, _⟩ | ⟨g, c, cur, h1, _⟩
      · exact ⟨_, _, _, h1⟩
      · exact ⟨_, _, _, h1⟩
    have HSS := hid hs3
    have HMM := hid hm3
    have HCK := hid hc3
    refine hK.out _ _ hc3 (fun hHeld => ?_)
    clear hK K hs3 hm3 hc3 hg3
    have k1 : w3.cell? ⟨C + 1, 0, none⟩ = some (.slice none 0 0) := one_cell HD3.out.s1
    have k2 : w3.cell? ⟨C + 1 + 1, 0, none⟩ = some (.map none) := one_cell HD3.out.s2
    have k3 : w3.cell? ⟨C + 1 + 1 + 1, 0, none⟩ = some .nilIface := one_cell HD3.out.s3
    have m1 := (one_row HD3.out.s1).frozen
    have m2 : ∀ i, w3.frozen? ⟨C + 1 + 1, i, none⟩ = false := (one_row HD3.out.s2).frozen
    have m3 : ∀ i, w3.frozen? ⟨C + 1 + 1 + 1, i, none⟩ = false := (one_row HD3.out.s3).frozen
    have HO : Hid (∀ (W : World) (g : Nat) (u : Value), g ≤ C + 3 → W.cell? ⟨R, 2, none⟩ = some (.map (some B)) → (W.setCell ⟨g, 0, none⟩ u).cell? ⟨R, 2, none⟩ = some (.map (some B))) := fun W g u hg h => (World.cell?_of_block (w := W) (a := ⟨R, 2, none⟩) (Below.heap_setCell _ _ _ _ (by have := HRB.out; show R ≠ g; omega))).trans h
    refine wpAnyH_ready (rs := [7]) (by kernel_rfl) (by simp) ?_
    refine AllReadyH.consW rfl (fun K hK => ?_) AllReadyH.nil
    go_simp
    refine hK.out _ _ (HO.out w3 (C + 1) _ (by omega) HCK.out) (fun hHeld => ?_)
    clear hK K
    refine wpAnyH_ready (rs := [8]) (by kernel_rfl) (by simp) ?_
    refine AllReadyH.consW rfl (fun K hK => ?_) AllReadyH.nil
    go_simp
    refine hK.out _ _ (HO.out _ (C + 1 + 1) _ (by omega) (HO.out w3 (C + 1) _ (by omega) HCK.out)) (fun hHeld => ?_)
    clear hK K
    refine wpAnyH_ready (rs := [9]) (by kernel_rfl) (by simp) ?_
    refine AllReadyH.consW rfl (fun K hK => ?_) AllReadyH.nil
    go_simp
    refine hK.out _ _ (HO.out _ (C + 1 + 1 + 1) _ (by omega) (HO.out _ (C + 1 + 1) _ (by omega) (HO.out w3 (C + 1) _ (by omega) HCK.out))) (fun hHeld => ?_)
    clear hK K hHeld
    refine wpAnyH_done (by kernel_rfl) ?_ _
    obtain ⟨V, hV⟩ : ∃ V, V = ((w3.setCell ⟨C + 1, 0, none⟩ (.slice av nv cv)).setCell ⟨C + 1 + 1, 0, none⟩ (.map (some B))).setCell ⟨C + 1 + 1 + 1, 0, none⟩ .nilIface := ⟨_, rfl⟩
    have HD4 : Hid (WdS C size aL nL cL (.slice av nv cv) (.map (some B)) .nilIface w V) := by unfold Hid; rw [hV]; exact HD3.out.put _ _ _
    have hoth : ∀ k, C + 3 < k → V.heap[k]? = w3.heap[k]? := fun k hk => by
      rw [hV, Below.heap_setCell _ _ _ _ (by show k ≠ C + 1 + 1 + 1; omega), Below.heap_setCell _ _ _ _ (by show k ≠ C + 1 + 1; omega), Below.heap_setCell _ _ _ _ (by show k ≠ C + 1; omega)]
    have HSV : Hid (StR w.heap.size V (.slice av nv cv) l) := by
      refine ⟨HSS.out.1, ?_⟩
      have hs2 := HS2.out
      rcases HSS.out.2 with hn | ⟨g, cap, cur, h1, hb, hg, rest⟩
      · exact .inl hn
      · exact .inr ⟨g, cap, cur, h1, by omega, (hoth g (by omega)).trans hg, rest⟩
    have HMV : Hid (MapAt V B (1 + 2 * l.length) cs) := by
      obtain ⟨D, ⟨es, cl, d1, d2⟩, d3⟩ := HMM.out
      exact ⟨D, ⟨es, cl, (hoth B HRB.out.2).trans d1, d2⟩, d3⟩
    clear hoth
    go_wp2_with fail
    rw [← hV]
    refine leaves_cons (f := 36) (args := #[.pointer (some ⟨C + 1, 0, none⟩), .pointer (some ⟨C + 1 + 1, 0, none⟩), .pointer (some ⟨C + 1 + 1 + 1, 0, none⟩)]) (by simp) (by simp [go_sem]) ?_
    refine (catch_idle ⟨C + 1, 0, none⟩ ⟨C + 1 + 1, 0, none⟩ ⟨C + 1 + 1 + 1, 0, none⟩ V).mono ?_
    rintro e u' w4 ⟨rfl, rfl, hw4⟩
    rw [hw4]
    have e1 : V.cell? ⟨C + 1, 0, none⟩ = some (.slice av nv cv) := one_cell HD4.out.s1
    have e2 : V.cell? ⟨C + 1 + 1, 0, none⟩ = some (.map (some B)) := one_cell HD4.out.s2
    have e3 : V.cell? ⟨C + 1 + 1 + 1, 0, none⟩ = some .nilIface := one_cell HD4.out.s3
    have hE := HWD.out (.returned (.tuple #[.slice av nv cv, .map (some B), .nilIface])) V HD4.out.bel ⟨_, B, rfl, HSV.out, HMV.out⟩
    clear hV hw4 HD4 HD3 HWD k1 k2 k3 m1 m2 m3 HSV HMV HSS HMM HCK HO
    simp [Leaves, settle, results, Tryd.results23, go_sem, e1, e2, e3]
    exact hE

end Go.Proofs.YtoodjpkflcbfdaiDoor

namespace Go.Proofs.YtoodjpkflcbfdaiDoor
open Go.RowKit Go.Maps

/-- what Walk gives -/
def WlR (p : Nat) (size : Int) (L : List InsZ) (limit : Int) (w : World) (e : Ending) (w' : World) : Prop := Below w.heap.size w w' ∧
  if fz6 (p : Int) size L.length limit ≠ 0 then e = .returned (.tuple #[.slice none 0 0, errV (fz6 (p : Int) size L.length limit)])
  else match mwalk p size L limit.toNat with
    | .bad z => e = .returned (.tuple #[.slice none 0 0, errV z])
    | .good l _ => ∃ v, e = .returned (.tuple #[v, .nilIface]) ∧ StR w.heap.size w' v l

theorem StR.mono {base base' : Nat} {w : World} {v : Value} {l : List (List Int)} (h : StR base w v l) (e : base' ≤ base) : StR base' w v l := by
  refine ⟨h.1, ?_⟩
  rcases h.2 with hn | ⟨g, cap, cur, h1, hb, rest⟩
  · exact .inl hn
  · exact .inr ⟨g, cap, cur, h1, Nat.le_trans e hb, rest⟩
theorem wdR_wlR {p : Nat} {size : Int} {L : List InsZ} {limit : Int} {w W W' : World} {e : Ending} (hb : Below w.heap.size w W) (h : WdR p size L limit W e W') : ∃ v1 v2 v3, e = .returned (.tuple #[v1, v2, v3]) ∧ WlR p size L limit w (.returned (.tuple #[v1, v3])) W' := by
  obtain ⟨h1, h2⟩ := h
  have hbb := hb.trans (h1.mono hb.size)
  by_cases hz : fz6 (p : Int) size L.length limit ≠ 0
  · rw [if_pos hz] at h2
    exact ⟨_, _, _, h2, hbb, by rw [if_pos hz]⟩
  · rw [if_neg hz] at h2
    cases hX : mwalk p size L limit.toNat with
    | bad z =>
      rw [hX] at h2
      exact ⟨_, _, _, h2, hbb, by rw [if_neg hz, hX]⟩
    | good l cs =>
      rw [hX] at h2
      obtain ⟨v, B, h3, h4, _⟩ := h2
      exact ⟨_, _, _, h3, hbb, by rw [if_neg hz, hX]; exact ⟨v, rfl, h4.mono hb.size⟩⟩

set_option maxRecDepth 100000 in
set_option maxHeartbeats 1000000 in
theorem pwalk_of (p b : Nat) (size limit : Int) (aL : Option Addr) (cL : Nat) (L : List InsZ) (w : World) (h : ∀ W, Below w.heap.size w W → Calls Tryd.prog 23 #[.pointer (some ⟨b, 0, none⟩), .agg #[.int .i64 size, .slice aL L.length cL], .int .i64 limit] W (WdR p size L limit W)) :
    Calls Tryd.prog 14 #[.pointer (some ⟨b, 0, none⟩), .agg #[.int .i64 size, .slice aL L.length cL], .int .i64 limit] w (WlR p size L limit w) := by
  have HH := hid h
  obtain ⟨nL, hnL⟩ : ∃ nL, nL = L.length := ⟨_, rfl⟩
  rw [← hnL] at HH ⊢
  clear h hnL
  go_enter Tryd.func14, Tryd.ntmps14
  go_wp2_with fail
  refine (HH.out _ ((Below.refl _ _).alloc (Nat.le_refl _) _)).mono ?_
  rintro e w1 hr1
  obtain ⟨v1, v2, v3, rfl, hE⟩ := wdR_wlR ((Below.refl w.heap.size w).alloc (Nat.le_refl _) _) hr1
  have HE := hid hE
  clear hr1 hE HH
  go_wp2_with fail
  go_ret2
  exact HE.out
/-- whatever the code and the limit -/
theorem pwalked_any (p b : Nat) (size limit : Int) (aL : Option Addr) (cL : Nat) (L : List InsZ) (w : World) (h3 : 3 ≤ p) (h4 : p ≤ 2147483647) (hpr : Num.Prime p) (hp : w.cell? ⟨b, 0, none⟩ = some (.int .i64 p)) (hn : L.length ≤ 281474976710656) (hL : LstI w.heap.size w aL cL L) (hIB : InsB L) :
    Calls Tryd.prog 23 #[.pointer (some ⟨b, 0, none⟩), .agg #[.int .i64 size, .slice aL L.length cL], .int .i64 limit] w (WdR p size L limit w) := by
  by_cases hz : fz6 (p : Int) size L.length limit = 0
  · have hl : 0 ≤ limit := by
      unfold fz6 at hz
      split at hz
      · omega
      · split at hz <;> omega
    obtain ⟨m, rfl⟩ := Int.eq_ofNat_of_zero_le hl
    exact pwalked_good p b size m aL cL L w h3 h4 hpr hp hz hL hIB
  · exact pwalked_bad p b size limit aL cL L w hp hn hz
theorem pwalk_any (p b : Nat) (size limit : Int) (aL : Option Addr) (cL : Nat) (L : List InsZ) (w : World) (h3 : 3 ≤ p) (h4 : p ≤ 2147483647) (hpr : Num.Prime p) (hp : w.cell? ⟨b, 0, none⟩ = some (.int .i64 p)) (hn : L.length ≤ 281474976710656) (hL : LstI w.heap.size w aL cL L) (hIB : InsB L) :
    Calls Tryd.prog 14 #[.pointer (some ⟨b, 0, none⟩), .agg #[.int .i64 size, .slice aL L.length cL], .int .i64 limit] w (WlR p size L limit w) :=
  pwalk_of p b size limit aL cL L w (fun W hb => pwalked_any p b size limit aL cL L W h3 h4 hpr ((hb.cell (p := ⟨b, 0, none⟩) (World.block_lt_of_cell? _ _ hp)).trans hp) hn ((hL.below hb).mono hb.size) hIB)

set_option maxRecDepth 100000 in
set_option maxHeartbeats 1000000 in
theorem rwalk_bad (p : Nat) (size limit : Int) (aL : Option Addr) (nL cL : Nat) (w : World) (hn : nL ≤ 281474976710656) (hz : fz6 (p : Int) size nL limit ≠ 0) :
    Calls Tryd.prog 15 #[.int .i64 p, .agg #[.int .i64 size, .slice aL nL cL], .int .i64 limit] w fun e w' => e = .returned (.tuple #[.slice none 0 0, .slice none 0 0, .int .i64 (fz6 (p : Int) size nL limit)]) ∧ Below w.heap.size w w' := by
  obtain ⟨W0, hW0⟩ : ∃ W0, W0 = w.alloc (.cells #[.int .i64 size, .slice aL nL cL] 24) := ⟨_, rfl⟩
  have hb0 : Below w.heap.size w W0 := by rw [hW0]; exact (Below.refl _ _).alloc (Nat.le_refl _) _
  have HC0 : Hid (W0.heap[w.heap.size]? = some (.cells #[.int .i64 size, .slice aL nL cL] 24 (0, 0))) := by unfold Hid; rw [hW0]; exact heap_alloc_new w _
  have HFT := hid (rfault6_any (p : Int) size limit nL cL aL W0 hn)
  have x0 : W0.cell? ⟨w.heap.size, 0, none⟩ = some (.int .i64 size) := by simp [World.cell?, HC0.out]
  have x1 : W0.cell? ⟨w.heap.size, 1, none⟩ = some (.slice aL nL cL) := by simp [World.cell?, HC0.out]
  have HB0 := hid hb0
  obtain ⟨z, hzz⟩ : ∃ z, z = fz6 (p : Int) size nL limit := ⟨_, rfl⟩
  rw [← hzz] at hz HFT ⊢
  have hq : (z != 0) = true := by simp [hz]
  clear hb0 hzz hz
  subst hW0
  go_enter Tryd.func15, Tryd.ntmps15
  go_wp2_with fail
  refine HFT.out.mono ?_
  rintro e w1 ⟨rfl, hb1⟩
  have HB1 := hid (HB0.out.trans (hb1.mono HB0.out.size))
  clear hb1 HFT HC0 HB0 x0 x1
  go_wp2_with fail
  go_ret3
  exact ⟨rfl, HB1.out⟩

end Go.Proofs.YtoodjpkflcbfdaiDoor
