/- A step of the program is one of the document, plainly. Package machine: steps. Package machine: begun. Package machine: wrong. Package machine: what walked defers. -/
import Derived.Test.YtdpdmgmeieijaaaGreatDoorMahG
import Derived.Test.YtdpdmgmeieijaaaGreatDoorSndAJ
import Derived.Test.YtdpdmgmeieijaaaGreatDoorFld
import Derived.Defers
import Derived.Recover
namespace Go.Proofs.YtdpdmgmeieijaaaGreatDoor
open Go.RowKit Go.Maps

theorem look_eq {s : RM} (he : s.err = 0) (x : Int) : s.look x = if 0 ≤ finz s.cs x then (s.shown x (cvl s.cs x), cvl s.cs x) else ({ s with err := 10 }, 0) := by
  unfold RM.look cvl
  rw [if_neg (by rw [he]; exact fun h => h rfl)]
  by_cases h : 0 ≤ finz s.cs x
  · rw [if_neg (by omega), if_pos h, if_pos h]
  · rw [if_pos (by omega), if_neg h]
theorem look_err {s : RM} (he : s.err ≠ 0) (x : Int) : s.look x = (s, 0) := by
  unfold RM.look
  rw [if_pos he]
theorem tell_eq {p : Nat} {s : RM} (he : s.err = 0) (x y : Int) : s.tell p x y = if (tel s.cs x (y % (p : Int))).1 = 0 then ({ s with cs := (tel s.cs x (y % (p : Int))).2 } : RM).shown x (y % (p : Int)) else { s with err := 7 } := by
  unfold RM.tell
  rw [if_neg (by rw [he]; exact fun h => h rfl)]
  by_cases h : 0 ≤ finz s.cs x
  · have hn : ¬ finz s.cs x < 0 := by omega
    by_cases h2 : (cat s.cs (finz s.cs x).toNat).2 = y % (p : Int)
    · simp [tel, cvl, tld, h, hn, h2]
    · simp [tel, cvl, h, h2]
  · have hn : finz s.cs x < 0 := by omega
    simp [tel, tld, h, hn]
theorem tell_err {p : Nat} {s : RM} (he : s.err ≠ 0) (x y : Int) : s.tell p x y = s := by
  unfold RM.tell
  rw [if_pos he]
theorem tel_two (cs : List (Int × Int)) (x y : Int) : (tel cs x y).1 = 0 ∨ (tel cs x y).1 = 7 := by
  unfold tel
  split
  · exact .inr rfl
  · exact .inl rfl
theorem tel_same {cs : List (Int × Int)} {x y : Int} (h : (tel cs x y).1 = 0) : (tel cs x y).2 = tld cs x y ∧ (0 ≤ finz cs x → cvl cs x = y) := by
  unfold tel at h ⊢
  split at h
  · simp at h
  · rename_i hh
    rw [if_neg hh]
    exact ⟨rfl, fun h1 => Decidable.byContradiction fun h2 => hh ⟨h1, h2⟩⟩
theorem tel_is {cs : List (Int × Int)} {x y : Int} (h : (tel cs x y).1 = 0) : cvl (tel cs x y).2 x = y := by
  rw [(tel_same h).1, tld_cvl (tel_same h).2, if_pos rfl]
theorem tel_keep {cs : List (Int × Int)} {x y u : Int} (h : (tel cs x y).1 = 0) (hu : 0 ≤ finz cs u) : cvl (tel cs x y).2 u = cvl cs u ∧ 0 ≤ finz (tel cs x y).2 u := by
  rw [(tel_same h).1, tld_cvl (tel_same h).2]
  refine ⟨?_, tld_finz.2 (.inl hu)⟩
  split
  · rename_i e
    subst e
    exact ((tel_same h).2 hu).symm
  · rfl

/-- cell 0 is 0 -/
def Zer (cs : List (Int × Int)) : Prop := 0 ≤ finz cs 0 ∧ cvl cs 0 = 0
theorem Zer.tel {cs : List (Int × Int)} {x y : Int} (h : Zer cs) (hh : (tel cs x y).1 = 0) : Zer (tel cs x y).2 := ⟨(tel_keep hh h.1).2, (tel_keep hh h.1).1.trans h.2⟩
/-- a step of the program is one of the document -/
def StepIs (p : Nat) (op a b c : Int) (n : Rg) (cs : List (Int × Int)) : Prop :=
  let x := cel3 p op a b c n.fp n.ap
  let r := wrk p op b (x 0) (x 1) (x 2) n cs
  let s := (freshM cs n).step p op a b c
  s.1.err = r.1 ∧ (r.1 = 0 → s.1.cs = r.2 ∧ s.1.now = [n.pc, n.fp, n.ap, n.rv, x 0, x 1, x 2, cvl r.2 (x 0), cvl r.2 (x 1), cvl r.2 (x 2)] ∧ s.2 = mvg p op a b n (cvl r.2 (x 0)) (cvl r.2 (x 1)) (cvl r.2 (x 2)))

section
variable {p : Nat} {a b c : Int} {n : Rg} {cs : List (Int × Int)}
theorem freshM_err : (freshM cs n).err = 0 := rfl
theorem fr_cs : (freshM cs n).cs = cs := rfl
theorem fr_fp : (freshM cs n).fp = n.fp := rfl
theorem fr_ap : (freshM cs n).ap = n.ap := rfl
theorem fr_pc : (freshM cs n).pc = n.pc := rfl
theorem fr_rv : (freshM cs n).rv = n.rv := rfl
theorem step_set (hz : Zer cs) : StepIs p 5 a b c n cs := by
  unfold StepIs
  simp [RM.step, cel3, wrk, mvg, fr_fp, fr_ap, fr_pc, fr_rv]
  rw [tell_eq freshM_err, fr_cs]
  by_cases h : (tel cs ((n.fp + a) % (p : Int)) (b % (p : Int))).1 = 0
  · simp [h, RM.shown, freshM, RM.now, stl, updM, tel_is h, (hz.tel h).2]
  · simp [(tel_two _ _ _).resolve_left h]
theorem step_take (hz : Zer cs) (hr : RgB p n) : StepIs p 12 a b c n cs := by
  unfold StepIs
  simp [RM.step, cel3, wrk, mvg, fr_fp, fr_ap, fr_pc, fr_rv]
  rw [tell_eq freshM_err, fr_cs, Int.emod_eq_of_lt hr.2.2.2.1 hr.2.2.2.2]
  by_cases h : (tel cs ((n.fp + a) % (p : Int)) n.rv).1 = 0
  · simp [h, RM.shown, freshM, RM.now, stl, updM, tel_is h, (hz.tel h).2]
  · simp [(tel_two _ _ _).resolve_left h]
theorem step_jump (hz : Zer cs) : StepIs p 8 a b c n cs := by
  unfold StepIs
  simp [RM.step, cel3, wrk, mvg, fr_fp, fr_ap, fr_rv]
  simp [freshM, RM.now, stl, hz.2]
theorem step_other {op : Int} (hno : op ≠ 0 ∧ op ≠ 1 ∧ op ≠ 2 ∧ op ≠ 3 ∧ op ≠ 4 ∧ op ≠ 5 ∧ op ≠ 6 ∧ op ≠ 7 ∧ op ≠ 8 ∧ op ≠ 9 ∧ op ≠ 10 ∧ op ≠ 11 ∧ op ≠ 12 ∧ op ≠ 13) : StepIs p op a b c n cs := by
  unfold StepIs
  simp [RM.step, wrk, hno]
theorem step_halt (hz : Zer cs) : StepIs p 0 a b c n cs := by
  unfold StepIs
  simp [RM.step, cel3, wrk, mvg, fr_fp, fr_ap, fr_pc, fr_rv]
  simp only [look_eq freshM_err, fr_cs]
  by_cases h : 0 ≤ finz cs ((n.fp + a) % (p : Int))
  · have gh : ¬ finz cs (((n.fp + a) % (p : Int))) < 0 := by omega
    simp [h, gh, RM.shown, freshM, RM.now, stl, updM, hz.2]
  · have gh : finz cs (((n.fp + a) % (p : Int))) < 0 := by omega
    simp [h, gh]
theorem step_zero (hz : Zer cs) : StepIs p 9 a b c n cs := by
  unfold StepIs
  simp [RM.step, cel3, wrk, mvg, fr_fp, fr_ap, fr_pc, fr_rv]
  simp only [look_eq freshM_err, fr_cs]
  by_cases h : 0 ≤ finz cs ((n.fp + a) % (p : Int))
  · have gh : ¬ finz cs (((n.fp + a) % (p : Int))) < 0 := by omega
    simp [h, gh, RM.shown, freshM, RM.now, stl, updM, hz.2]
  · have gh : finz cs (((n.fp + a) % (p : Int))) < 0 := by omega
    simp [h, gh]
theorem step_pass (hz : Zer cs) (hb : ∀ x, 0 ≤ cvl cs x ∧ cvl cs x < p) : StepIs p 13 a b c n cs := by
  unfold StepIs
  simp [RM.step, cel3, wrk, mvg, fr_fp, fr_ap, fr_pc, fr_rv]
  simp only [look_eq freshM_err, fr_cs]
  generalize (n.fp + a) % (p : Int) = A
  generalize (n.ap + 2 + b) % (p : Int) = B
  by_cases h : 0 ≤ finz cs A
  · have gh : ¬ finz cs (A) < 0 := by omega
    simp only [h, gh, if_true, if_false]
    have e1 : ((freshM cs n).shown A (cvl cs A)).err = 0 := rfl
    have e2 : ((freshM cs n).shown A (cvl cs A)).cs = cs := rfl
    rw [tell_eq e1, e2, Int.emod_eq_of_lt (hb A).1 (hb A).2]
    by_cases h2 : (tel cs B (cvl cs A)).1 = 0
    · simp [h2, RM.shown, freshM, RM.now, stl, updM, tel_is h2, (hz.tel h2).2, (tel_keep h2 h).1]
    · simp [(tel_two _ _ _).resolve_left h2]
  · have gh : finz cs (A) < 0 := by omega
    simp [h, gh, RM.tell]
theorem step_back : StepIs p 11 a b c n cs := by
  unfold StepIs
  simp [RM.step, cel3, wrk, mvg, fr_fp, fr_ap]
  simp only [look_eq freshM_err, fr_cs]
  generalize (n.fp + a) % (p : Int) = A
  generalize (n.fp - 2) % (p : Int) = X
  generalize (n.fp - 1) % (p : Int) = Y
  by_cases h : 0 ≤ finz cs X
  · have gh : ¬ finz cs (X) < 0 := by omega
    simp only [h, gh, if_true, if_false]
    have e1 : ((freshM cs n).shown X (cvl cs X)).err = 0 := rfl
    have e2 : ((freshM cs n).shown X (cvl cs X)).cs = cs := rfl
    rw [look_eq e1, e2]
    by_cases h2 : 0 ≤ finz cs Y
    · have gh2 : ¬ finz cs (Y) < 0 := by omega
      simp only [h2, gh2, if_true, if_false]
      have e3 : (((freshM cs n).shown X (cvl cs X)).shown Y (cvl cs Y)).err = 0 := rfl
      have e4 : (((freshM cs n).shown X (cvl cs X)).shown Y (cvl cs Y)).cs = cs := rfl
      rw [look_eq e3, e4]
      by_cases h3 : 0 ≤ finz cs A
      · have gh3 : ¬ finz cs (A) < 0 := by omega
        simp [h3, gh3, RM.shown, freshM, RM.now, stl, updM]
      · have gh3 : finz cs (A) < 0 := by omega
        simp [h3, gh3]
    · have gh2 : finz cs (Y) < 0 := by omega
      simp [h2, gh2, RM.look]
  · have gh : finz cs (X) < 0 := by omega
    simp [h, gh, RM.look]
theorem step_must (hz : Zer cs) : StepIs p 7 a b c n cs := by
  unfold StepIs
  simp [RM.step, cel3, wrk, mvg, fr_fp, fr_ap, fr_pc, fr_rv]
  simp only [look_eq freshM_err, fr_cs]
  generalize (n.fp + a) % (p : Int) = X
  generalize (n.fp + b) % (p : Int) = Y
  by_cases h : 0 ≤ finz cs X
  · have gh : ¬ finz cs (X) < 0 := by omega
    simp only [h, gh, if_true, if_false]
    have e1 : ((freshM cs n).shown X (cvl cs X)).err = 0 := rfl
    have e2 : ((freshM cs n).shown X (cvl cs X)).cs = cs := rfl
    rw [look_eq e1, e2]
    by_cases h2 : 0 ≤ finz cs Y
    · have gh2 : ¬ finz cs (Y) < 0 := by omega
      by_cases h3 : cvl cs X = cvl cs Y
      · simp [h2, gh2, h3, RM.must, RM.shown, freshM, RM.now, stl, updM, hz.2]
      · simp [h2, gh2, h3, RM.must, RM.shown, freshM]
    · have gh2 : finz cs (Y) < 0 := by omega
      simp [h2, gh2, RM.must]
  · have gh : finz cs (X) < 0 := by omega
    simp [h, gh, RM.look, RM.must]
theorem step_call (hz : Zer cs) (hr : RgB p n) : StepIs p 10 a b c n cs := by
  unfold StepIs
  have hap : n.ap % (p : Int) = n.ap := Int.emod_eq_of_lt hr.2.2.1.1 hr.2.2.1.2
  simp [RM.step, cel3, wrk, mvg, fr_fp, fr_ap, fr_pc, fr_rv, hap]
  rw [tell_eq freshM_err, fr_cs, Int.emod_eq_of_lt hr.2.1.1 hr.2.1.2]
  generalize (n.ap + 1) % (p : Int) = Y
  by_cases h : (tel cs n.ap n.fp).1 = 0
  · simp only [h, if_true]
    have e1 : (({ freshM cs n with cs := (tel cs n.ap n.fp).2 } : RM).shown n.ap n.fp).err = 0 := rfl
    have e2 : (({ freshM cs n with cs := (tel cs n.ap n.fp).2 } : RM).shown n.ap n.fp).cs = (tel cs n.ap n.fp).2 := rfl
    rw [tell_eq e1, e2]
    by_cases h2 : (tel (tel cs n.ap n.fp).2 Y ((n.pc + 1) % (p : Int))).1 = 0
    · have hk := tel_keep (u := n.ap) h2 (by rw [(tel_same h).1]; exact tld_finz.2 (.inr rfl))
      simp [h2, RM.shown, freshM, RM.now, stl, updM, tel_is h2, ((hz.tel h).tel h2).2, hk.1, tel_is h]
    · simp [(tel_two _ _ _).resolve_left h2]
  · have h7 := (tel_two cs n.ap n.fp).resolve_left h
    simp [h7, RM.tell]
/-- two looks and a telling -/
theorem step_three {op : Int} (ho : op = 1 ∨ op = 2 ∨ op = 3 ∨ op = 6) (h3 : 3 ≤ p) : StepIs p op a b c n cs := by
  unfold StepIs
  have hc : (op = 1 ∨ op = 2 ∨ op = 3 ∨ op = 4 ∨ op = 6) = True := by rw [eq_iff_iff]; exact ⟨fun _ => trivial, fun _ => by rcases ho with h | h | h | h <;> simp [h]⟩
  have hd : (op = 1 ∨ op = 2 ∨ op = 3 ∨ op = 6) = True := by rw [eq_iff_iff]; exact ⟨fun _ => trivial, fun _ => ho⟩
  have hn4 : op ≠ 4 := by rcases ho with rfl | rfl | rfl | rfl <;> decide
  have hm : ∀ x y z, mvg p op a b n x y z = ⟨(n.pc + 1) % (p : Int), n.fp, n.ap, n.rv⟩ := fun x y z => by
    unfold mvg
    rcases ho with rfl | rfl | rfl | rfl <;> simp
  simp only [RM.step, cel3, wrk, hc, hd, if_true, RM.three, RM.rck, if_neg hn4, hm, fr_fp, fr_ap, fr_pc, fr_rv]
  simp
  simp only [look_eq freshM_err, fr_cs]
  generalize (n.fp + a) % (p : Int) = X
  generalize (n.fp + b) % (p : Int) = Y
  generalize (n.fp + c) % (p : Int) = Z
  by_cases h : 0 ≤ finz cs X
  · have gh : ¬ finz cs (X) < 0 := by omega
    simp only [h, gh, if_true, if_false]
    have e1 : ((freshM cs n).shown X (cvl cs X)).err = 0 := rfl
    have e2 : ((freshM cs n).shown X (cvl cs X)).cs = cs := rfl
    rw [look_eq e1, e2]
    by_cases h2 : 0 ≤ finz cs Y
    · have gh2 : ¬ finz cs (Y) < 0 := by omega
      simp only [h2, gh2, if_true, if_false]
      have e3 : (((freshM cs n).shown X (cvl cs X)).shown Y (cvl cs Y)).err = 0 := rfl
      have e4 : (((freshM cs n).shown X (cvl cs X)).shown Y (cvl cs Y)).cs = cs := rfl
      have hb := rkn_bounds h3 op (cvl cs X) (cvl cs Y)
      rw [tell_eq e3, e4, Int.emod_eq_of_lt hb.1 hb.2]
      by_cases h5 : (tel cs Z (rkn p op (cvl cs X) (cvl cs Y))).1 = 0
      · simp [h5, RM.shown, freshM, RM.now, stl, updM, tel_is h5, (tel_keep h5 h).1, (tel_keep h5 h2).1]
      · simp [(tel_two _ _ _).resolve_left h5]
    · have gh2 : finz cs (Y) < 0 := by omega
      simp [h2, gh2, RM.tell]
  · have gh : finz cs (X) < 0 := by omega
    simp [h, gh, RM.look, RM.tell]
theorem step_div (h3 : 3 ≤ p) : StepIs p 4 a b c n cs := by
  unfold StepIs
  simp [RM.step, cel3, wrk, mvg, RM.three, RM.rck, fr_fp, fr_ap, fr_pc, fr_rv]
  simp only [look_eq freshM_err, fr_cs]
  generalize (n.fp + a) % (p : Int) = X
  generalize (n.fp + b) % (p : Int) = Y
  generalize (n.fp + c) % (p : Int) = Z
  by_cases h : 0 ≤ finz cs X
  · have gh : ¬ finz cs (X) < 0 := by omega
    simp only [h, gh, if_true, if_false]
    have e1 : ((freshM cs n).shown X (cvl cs X)).err = 0 := rfl
    have e2 : ((freshM cs n).shown X (cvl cs X)).cs = cs := rfl
    rw [look_eq e1, e2]
    by_cases h2 : 0 ≤ finz cs Y
    · have gh2 : ¬ finz cs (Y) < 0 := by omega
      by_cases hv : cvl cs Y = 0
      · simp [h2, gh2, hv, RM.must, RM.tell, RM.shown, freshM]
      · simp only [h2, gh2, if_true, if_false]
        have e0 : (((freshM cs n).shown X (cvl cs X)).shown Y (cvl cs Y)).must (cvl cs Y != 0) = ((freshM cs n).shown X (cvl cs X)).shown Y (cvl cs Y) := by simp [RM.must, hv]
        rw [e0]
        have e3 : (((freshM cs n).shown X (cvl cs X)).shown Y (cvl cs Y)).err = 0 := rfl
        have e4 : (((freshM cs n).shown X (cvl cs X)).shown Y (cvl cs Y)).cs = cs := rfl
        have hb := rkn_bounds h3 4 (cvl cs X) (cvl cs Y)
        rw [tell_eq e3, e4, Int.emod_eq_of_lt hb.1 hb.2]
        by_cases h5 : (tel cs Z (rkn p 4 (cvl cs X) (cvl cs Y))).1 = 0
        · simp [h5, hv, RM.shown, freshM, RM.now, stl, updM, tel_is h5, (tel_keep h5 h).1, (tel_keep h5 h2).1]
        · simp [hv, (tel_two _ _ _).resolve_left h5]
    · have gh2 : finz cs (Y) < 0 := by omega
      simp [h2, gh2, RM.must, RM.tell]
  · have gh : finz cs (X) < 0 := by omega
    simp [h, gh, RM.look, RM.must, RM.tell]
theorem step_is (op : Int) (h3 : 3 ≤ p) (hz : Zer cs) (hr : RgB p n) (hb : ∀ x, 0 ≤ cvl cs x ∧ cvl cs x < p) : StepIs p op a b c n cs := by
  by_cases h0 : op = 0; · subst h0; exact step_halt hz
  by_cases h1 : op = 1; · exact step_three (.inl h1) h3
  by_cases h2 : op = 2; · exact step_three (.inr (.inl h2)) h3
  by_cases h3' : op = 3; · exact step_three (.inr (.inr (.inl h3'))) h3
  by_cases h4 : op = 4; · subst h4; exact step_div h3
  by_cases h5 : op = 5; · subst h5; exact step_set hz
  by_cases h6 : op = 6; · exact step_three (.inr (.inr (.inr h6))) h3
  by_cases h7 : op = 7; · subst h7; exact step_must hz
  by_cases h8 : op = 8; · subst h8; exact step_jump hz
  by_cases h9 : op = 9; · subst h9; exact step_zero hz
  by_cases h10 : op = 10; · subst h10; exact step_call hz hr
  by_cases h11 : op = 11; · subst h11; exact step_back
  by_cases h12 : op = 12; · subst h12; exact step_take hz hr
  by_cases h13 : op = 13; · subst h13; exact step_pass hz hb
  exact step_other ⟨h0, h1, h2, h3', h4, h5, h6, h7, h8, h9, h10, h11, h12, h13⟩
end

end Go.Proofs.YtdpdmgmeieijaaaGreatDoor

namespace Go.Proofs.YtdpdmgmeieijaaaGreatDoor
open Go.RowKit Go.Maps

/-- cells whose contents are elements -/
def CsB (p : Nat) (cs : List (Int × Int)) : Prop := ∀ j, j < cs.length → 0 ≤ (cat cs j).2 ∧ (cat cs j).2 < p
theorem csB_cvl {p : Nat} {cs : List (Int × Int)} (h3 : 3 ≤ p) (h : CsB p cs) (x : Int) : 0 ≤ cvl cs x ∧ cvl cs x < p := by
  unfold cvl
  split
  · rename_i hh
    exact h _ (finz_bound hh).1
  · omega
/-- what is known at the head of steps' loop -/
structure PkI (p limit : Nat) (L : List InsZ) (X : WR) (cs : List (Int × Int)) (n : Rg) (l : List (List Int)) (f : Nat) : Prop where
  is : X = mgo p L limit f (freshM cs n) l
  fuel : l.length + f = limit + 1
  pos : 1 ≤ f
  cb : CsB p cs
  zer : Zer cs
  rg : RgB p n
/-- what stands there -/
structure PkS (p R b B : Nat) (aL : Option Addr) (nL cL : Nat) (cs : List (Int × Int)) (n : Rg) (v : Value) (l : List (List Int)) (w W : World) : Prop where
  rn : RnAt W R b B aL nL cL n
  mp : MapAt W B (1 + 2 * l.length) cs
  stp : StR w.heap.size W v l
  gr : Gr2 B R w W
  hR : R < w.heap.size
  hB : B < w.heap.size
section
variable {p R b B : Nat} {aL : Option Addr} {nL cL : Nat} {cs cs' : List (Int × Int)} {n n' : Rg} {v : Value} {l : List (List Int)} {w W W' : World}
theorem StR.gr (h : StR w.heap.size W v l) (g : Gr2 B R W W') (hR : R < w.heap.size) (hB : B < w.heap.size) : StR w.heap.size W' v l := by
  refine ⟨h.1, ?_⟩
  rcases h.2 with hn | ⟨g', cap, cur, rfl, hb, hg, rest⟩
  · exact .inl hn
  · exact .inr ⟨g', cap, cur, rfl, hb, (g.block g' (Array.getElem?_eq_some_iff.1 hg).1 (by omega) (by omega)).trans hg, rest⟩
theorem PkS.step (h : PkS p R b B aL nL cL cs n v l w W) (e : Below W.heap.size W W') : PkS p R b B aL nL cL cs n v l w W' :=
  ⟨h.rn.of_block (e.block _ h.rn.lt), h.mp.kept (gb_noneM e) (by simp), h.stp.gr (Gr2.ofB e) h.hR h.hB, h.gr.trans (Gr2.ofB e), h.hR, h.hB⟩
/-- a step more is laid down -/
theorem PkS.app {x : List Int} {v' : Value} (h : PkS p R b B aL nL cL cs n v l w W) (g : Gr2 B R W W') (hr : RnAt W' R b B aL nL cL n') (hm : MapAt W' B (1 + 2 * l.length + 2) cs') {W2 : World} (hs : StR w.heap.size W2 v' (l ++ [x])) (e : Below w.heap.size W' W2) : PkS p R b B aL nL cL cs' n' v' (l ++ [x]) w W2 := by
  have g1 := h.gr.trans g
  refine ⟨hr.of_block (e.block _ h.hR), ?_, hs, ⟨e.os.trans g1.os, e.tape.trans g1.tape, e.output.trans g1.output, Nat.le_trans g1.size e.size, fun k hk e1 e2 => (e.block k hk).trans (g1.block k hk e1 e2)⟩, h.hR, h.hB⟩
  obtain ⟨D, ⟨es, cl, h1, h2⟩, h3⟩ := hm
  refine ⟨D, ⟨es, cl, (e.block _ h.hB).trans h1, ?_⟩, h3⟩
  rw [List.length_append]
  simpa [Nat.mul_add, Nat.add_assoc] using h2
end
/-- how steps ends -/
def PkR (B R : Nat) (X : WR) (w : World) (e : Ending) (w' : World) : Prop := Gr2 B R w w' ∧ match X with
  | .bad z => (z = 7 ∧ e = pnc 88) ∨ (z = 8 ∧ e = pnc 89) ∨ (z = 10 ∧ e = pnc 87)
  | .good l cs => ∃ v, e = .returned v ∧ StR w.heap.size w' v l ∧ MapAt w' B (1 + 2 * l.length) cs ∧ w'.cell? ⟨R, 2, none⟩ = some (.map (some B))

theorem zer_ite {P : Prop} [Decidable P] {a b : Int × List (Int × Int)} (ha : a.1 = 0 → Zer a.2) (hb : b.1 = 0 → Zer b.2) : (if P then a else b).1 = 0 → Zer (if P then a else b).2 := by
  split
  · exact ha
  · exact hb
theorem wrk_zer {p : Nat} {op ib x0 x1 x2 : Int} {n : Rg} {cs : List (Int × Int)} (hz : Zer cs) : (wrk p op ib x0 x1 x2 n cs).1 = 0 → Zer (wrk p op ib x0 x1 x2 n cs).2 := by
  have hc : ∀ e : Int, (e, cs).1 = 0 → Zer (e, cs).2 := fun _ _ => hz
  have ht : ∀ x y : Int, (tel cs x y).1 = 0 → Zer (tel cs x y).2 := fun _ _ h => hz.tel h
  unfold wrk
  refine zer_ite (zer_ite (hc _) (zer_ite (hc _) (ht _ _))) (zer_ite (zer_ite (hc _) (zer_ite (hc _) (zer_ite (hc _) (ht _ _)))) (zer_ite (ht _ _) (zer_ite (zer_ite (hc _) (zer_ite (hc _) (zer_ite (hc _) (hc _)))) (zer_ite ?_ (zer_ite (zer_ite (hc _) (zer_ite (hc _) (zer_ite (hc _) (hc _)))) (zer_ite (ht _ _) (zer_ite (zer_ite (hc _) (ht _ _)) (zer_ite (zer_ite (hc _) (hc _)) (zer_ite (hc _) (hc _))))))))))
  by_cases h : (tel cs x0 n.fp).1 = 0
  · rw [if_neg (fun hh => hh h)]
    exact fun h2 => (hz.tel h).tel h2
  · rw [if_pos h]
    exact ht _ _

set_option maxRecDepth 100000 in
set_option maxHeartbeats 4000000 in
theorem psteps_any (p R b B cL limit N : Nat) (aL : Option Addr) (L : List InsZ) (n0 : Rg) (cs0 : List (Int × Int)) (w : World) (h3 : 3 ≤ p) (h4 : p ≤ 2147483647) (hpr : Num.Prime p) (hR : RnAt w R b B aL L.length cL n0) (hM : MapAt w B 1 cs0) (hp : w.cell? ⟨b, 0, none⟩ = some (.int .i64 p)) (hL : LstI N w aL cL L) (hIB : InsB L) (hlim : limit ≤ 16384) (hNB : N ≤ B) (hNR : N ≤ R) (hbN : b < N) (hcb : CsB p cs0) (hz : Zer cs0) (hrg : RgB p n0) :
    Calls Tryz.prog 41 #[.pointer (some ⟨R, 0, none⟩), .int .i64 (limit : Int)] w (PkR B R (mgo p L limit (limit + 1) (freshM cs0 n0) []) w) := by
  obtain ⟨X, hX⟩ : ∃ X, X = mgo p L limit (limit + 1) (freshM cs0 n0) [] := ⟨_, rfl⟩
  rw [← hX]
  have hRl := hR.lt
  have hBl : B < w.heap.size := by obtain ⟨D, h1, _⟩ := hM; exact h1.lt
  have HS0 : Hid (PkI p limit L X cs0 n0 [] (limit + 1) ∧ PkS p R b B aL L.length cL cs0 n0 (.slice none 0 0) [] w w) := ⟨⟨hX, by simp, by omega, hcb, hz, hrg⟩, ⟨hR, hM, World.ownsRow_nil _ _ _ _, ⟨rfl, rfl, rfl, Nat.le_refl _, fun _ _ _ _ => rfl⟩, hRl, hBl⟩⟩
  have HL := hid hL
  have HP := hid hp
  have HPR := hid hpr
  have HIB := hid hIB
  have HNN : Hid (N ≤ B ∧ N ≤ R ∧ b < N ∧ N ≤ w.heap.size) := ⟨hNB, hNR, hbN, by omega⟩
  obtain ⟨nL, hnL⟩ : ∃ nL, nL = L.length := ⟨_, rfl⟩
  have HNL := hid hnL
  clear hX hR hM hp hL hIB hNB hNR hbN hcb hz hrg hpr hRl hBl hnL
  go_enter Tryz.func41, Tryz.ntmps41
  go_wp2_with fail
  go_loopw [5] (fun lv wr => ∃ (cs : List (Int × Int)) (n : Rg) (l : List (List Int)) (f : Nat), lenW lv = l.length ∧ Hid (PkI p limit L X cs n l f ∧ PkS p R b B aL L.length cL cs n lv l w wr)) (fun lv _ => limit + 1 - lenW lv)
  case atStart => exact ⟨cs0, n0, [], limit + 1, rfl, HS0.out⟩
  case round =>
    obtain ⟨cs, n, l, f, hlv, hI⟩ := hrel
    obtain ⟨a, cap, hv⟩ : ∃ a c, u5 = .slice a l.length c := by
      rcases hI.out.2.stp.2 with ⟨h1, h2⟩ | ⟨g, c, cur, h1, _⟩
      · exact ⟨none, 0, by rw [h1, h2]⟩
      · exact ⟨_, _, h1⟩
    subst hv
    obtain ⟨nl, hnl⟩ : ∃ nl, nl = l.length := ⟨_, rfl⟩
    have HNl := hid hnl
    rw [← hnl]
    obtain ⟨k, hk⟩ := Int.eq_ofNat_of_zero_le hI.out.1.rg.1.1
    have hkp : k < p := by have := hI.out.1.rg.1.2; omega
    have hnll : nl ≤ limit := by have := hI.out.1.fuel; have := hI.out.1.pos; omega
    have HKE := hid hk
    clear hk hnl hlv
    have HBN : Hid (Below N w wr) := hI.out.2.gr.to HNN.out.1 HNN.out.2.1 HNN.out.2.2.2
    by_cases hpc : nL ≤ k
    · have HNX := hid (pnext_no R b B cL k aL L.length n wr hI.out.2.rn HKE.out (by rw [← HNL.out]; omega))
      have HBad : Hid (X = .bad 7) := by
        unfold Hid
        have h1 := hI.out.1
        obtain ⟨f', hf'⟩ : ∃ f', f = f' + 1 := ⟨f - 1, by have := h1.pos; omega⟩
        rw [h1.is, hf', mgo, if_pos (by show (L.length : Int) ≤ n.pc; rw [HKE.out, ← HNL.out]; omega)]
      clear hpc
      go_wp2_with fail
      refine HNX.out.mono ?_
      rintro e w2 ⟨rfl, hb2⟩
      refine ⟨rfl, hI.out.2.gr.trans (Gr2.ofB hb2), ?_⟩
      rw [HBad.out]
      exact .inl ⟨rfl, rfl⟩
    · have HNX := hid (pnext_yes R b B cL k aL L n wr hI.out.2.rn ((HL.out.below HBN.out).mono (Nat.le_trans HNN.out.2.2.2 hI.out.2.gr.size)) HKE.out (by rw [← HNL.out]; omega))
      have HIk := hid (HIB.out k (by rw [← HNL.out]; omega))
      obtain ⟨o, ho⟩ : ∃ o, o = insat L k := ⟨_, rfl⟩
      rw [← ho] at HNX HIk
      have HOk := hid ho
      obtain ⟨op, ia, ib, ic⟩ := o
      clear ho
      go_wp2_with fail
      refine HNX.out.mono ?_
      rintro e w2 ⟨rfl, hb2⟩
      have HI2 : Hid (PkI p limit L X cs n l f ∧ PkS p R b B aL L.length cL cs n (.slice a nl cap) l w (w2.alloc (.cells #[.int .i64 op, .int .i64 ia, .int .i64 ib, .int .i64 ic] 45))) := ⟨hI.out.1, by rw [HNl.out]; exact (hI.out.2.step hb2).step ((Below.refl _ _).alloc (Nat.le_refl _) _)⟩
      have HIN : Hid ((w2.alloc (.cells #[.int .i64 op, .int .i64 ia, .int .i64 ib, .int .i64 ic] 45)).heap[w2.heap.size]? = some (.cells #[.int .i64 op, .int .i64 ia, .int .i64 ib, .int .i64 ic] 45 (0, 0))) := heap_alloc_new w2 _
      have HSW : Hid (w.heap.size ≤ w2.heap.size) := Nat.le_trans hI.out.2.gr.size hb2.size
      clear hI hb2 HNX HBN
      obtain ⟨W2, hW2⟩ : ∃ W2, W2 = w2.alloc (.cells #[.int .i64 op, .int .i64 ia, .int .i64 ib, .int .i64 ic] 45) := ⟨_, rfl⟩
      rw [← hW2] at HI2 HIN
      have HW2 := hid hW2
      have HFX : Hid (∃ f', f = f' + 1 ∧ X = (if (L.length : Int) ≤ n.pc then .bad 7 else if l.length = limit ∧ op ≠ 0 then .bad 8 else if ((freshM cs n).step p op ia ib ic).1.err ≠ 0 then .bad ((freshM cs n).step p op ia ib ic).1.err else if op = 0 then .good (l ++ [((freshM cs n).step p op ia ib ic).1.now]) ((freshM cs n).step p op ia ib ic).1.cs else mgo p L limit f' (freshM ((freshM cs n).step p op ia ib ic).1.cs ((freshM cs n).step p op ia ib ic).2) (l ++ [((freshM cs n).step p op ia ib ic).1.now]))) := by
        have h1 := HI2.out.1
        obtain ⟨f', hf'⟩ : ∃ f', f = f' + 1 := ⟨f - 1, by have := h1.pos; omega⟩
        refine ⟨f', hf', ?_⟩
        have hpk : (freshM cs n).pc.toNat = k := by show n.pc.toNat = k; rw [HKE.out]; rfl
        rw [h1.is, hf', mgo, hpk, ← HOk.out]
        rfl
      have HPC : Hid (¬ (L.length : Int) ≤ n.pc) := by unfold Hid; rw [HKE.out, ← HNL.out]; omega
      by_cases hlim : nl = limit ∧ op ≠ 0
      · have hb1 : ((nl : Int) == (limit : Int)) = true := by rw [hlim.1]; simp
        have hb2 : (op != 0) = true := by simp [hlim.2]
        have HBad : Hid (X = .bad 8) := by
          obtain ⟨f', _, h2⟩ := HFX.out
          unfold Hid
          rw [h2, if_neg (by have := HPC.out; omega), if_pos ⟨by rw [← HNl.out]; exact hlim.1, hlim.2⟩]
        have HG2 := hid HI2.out.2.gr
        clear hlim HI2 HFX
        have g0 := fourM0 HIN.out
        clear HIN
        subst hW2
        go_wp2_with fail
        refine ⟨rfl, HG2.out, ?_⟩
        rw [HBad.out]
        exact .inr (.inl ⟨rfl, rfl⟩)
      · have HLim := hid hlim
        have hor : ((nl : Int) == (limit : Int)) = false ∨ (((nl : Int) == (limit : Int)) = true ∧ (op != 0) = false) := by
          by_cases h1 : nl = limit
          · refine .inr ⟨by rw [h1]; simp, ?_⟩
            have : op = 0 := Decidable.byContradiction fun h => hlim ⟨h1, h⟩
            simp [this]
          · exact .inl (by rw [beq_eq_false_iff_ne]; omega)
        obtain ⟨x, hx⟩ : ∃ x, x = cel3 p op ia ib ic n.fp n.ap := ⟨_, rfl⟩
        obtain ⟨r, hr⟩ : ∃ r, r = wrk p op ib (x 0) (x 1) (x 2) n cs := ⟨_, rfl⟩
        have hpW : W2.cell? ⟨b, 0, none⟩ = some (.int .i64 p) := by
          have hb := HI2.out.2.gr.to HNN.out.1 HNN.out.2.1 HNN.out.2.2.2
          exact (hb.cell (p := ⟨b, 0, none⟩) HNN.out.2.2.1).trans HP.out
        have hrg := HI2.out.1.rg
        have HSI := hid (step_is (a := ia) (b := ib) (c := ic) op h3 HI2.out.1.zer hrg (csB_cvl h3 HI2.out.1.cb))
        have HOKS := hid (step_ok (s := freshM cs n) (n := cs.length) h3 ⟨HI2.out.1.cb, Nat.le_refl _, fun _ => Nat.le_refl _⟩ hrg op ia ib ic)
        have HZR : Hid (r.1 = 0 → Zer r.2) := by unfold Hid; rw [hr]; exact wrk_zer HI2.out.1.zer
        have HST := hid (pstep_any p R b B (1 + 2 * l.length) aL L.length cL op ia ib ic n cs W2 h3 h4 HPR.out HI2.out.2.rn HI2.out.2.mp hpW (by unfold maxLen; have := HNl.out; omega) (csB_cvl h3 HI2.out.1.cb) ⟨HIk.out.2.1, HIk.out.2.2.1, HIk.out.2.2.2⟩ ⟨⟨by have := hrg.1; omega, by have := hrg.1; omega⟩, ⟨by have := hrg.2.1; omega, by have := hrg.2.1; omega⟩, ⟨by have := hrg.2.2.1; omega, by have := hrg.2.2.1; omega⟩, ⟨by have := hrg.2.2.2; omega, by have := hrg.2.2.2; omega⟩⟩ (by have := HNN.out; omega))
        unfold SpR at HST
        unfold StepIs at HSI
        rw [← hx] at HST HSI
        simp only [← hr] at HST HSI
        have g0 := fourM0 HIN.out
        have g1 := fourM1 HIN.out
        have g2 := fourM2 HIN.out
        have g3 := fourM3 HIN.out
        clear hlim hpW hrg hx hr
        rcases hor with hb1 | ⟨hb1, hb2⟩
        all_goals
          subst hW2
          go_wp2_with fail
          refine HST.out.mono ?_
          rintro e w3 ⟨hg3, hw3⟩
          have HGG := hid (HI2.out.2.gr.trans hg3)
          have HLL : Hid (¬ (l.length = limit ∧ op ≠ 0)) := by unfold Hid; rw [← HNl.out]; exact HLim.out
          rcases hw3 with ⟨h0, rfl, hr3, hm3⟩ | ⟨h7, rfl⟩ | ⟨h10, rfl⟩
          · obtain ⟨he1, he2⟩ := HSI.out
            obtain ⟨e1, e2, e3⟩ := he2 h0
            have HXX : Hid (∃ f', f = f' + 1 ∧ X = (if op = 0 then .good (l ++ [[n.pc, n.fp, n.ap, n.rv, x 0, x 1, x 2, cvl r.2 (x 0), cvl r.2 (x 1), cvl r.2 (x 2)]]) r.2 else mgo p L limit f' (freshM r.2 (mvg p op ia ib n (cvl r.2 (x 0)) (cvl r.2 (x 1)) (cvl r.2 (x 2)))) (l ++ [[n.pc, n.fp, n.ap, n.rv, x 0, x 1, x 2, cvl r.2 (x 0), cvl r.2 (x 1), cvl r.2 (x 2)]])) ∧ CsB p r.2 ∧ RgB p (mvg p op ia ib n (cvl r.2 (x 0)) (cvl r.2 (x 1)) (cvl r.2 (x 2)))) := by
              obtain ⟨f', hf', h2⟩ := HFX.out
              refine ⟨f', hf', ?_, ?_, ?_⟩
              · rw [h2, if_neg (by have := HPC.out; omega), if_neg HLL.out, if_neg (by rw [he1, h0]; exact fun h => h rfl), e1, e2, e3]
              · rw [← e1]; exact HOKS.out.1.1
              · rw [← e3]; exact HOKS.out.2
            have HZ2 := hid (HZR.out h0)
            have HR3 := hid hr3
            have HM3 := hid hm3
            have HG3 := hid hg3
            have HO3 : Hid (StR w.heap.size w3 (.slice a nl cap) l) := HI2.out.2.stp.gr hg3 HI2.out.2.hR HI2.out.2.hB
            have HI3 := hid HI2.out
            have HSZ : Hid (w.heap.size ≤ w3.heap.size) := HGG.out.size
            have HIN3 : Hid (w3.heap[w2.heap.size]? = some (.cells #[.int .i64 op, .int .i64 ia, .int .i64 ib, .int .i64 ic] 45 (0, 0))) := by
              have hlt := (Array.getElem?_eq_some_iff.1 HIN.out).1
              have h1 := HI2.out.2.hR
              have h2 := HI2.out.2.hB
              have h3 := HSW.out
              exact (hg3.block _ hlt (by omega) (by omega)).trans HIN.out
            have q0 := fourM0 HIN3.out
            have HIN4 := hid HIN3.out
            clear he1 he2 e1 e2 e3 h0 hr3 hm3 hg3 HFX HSI HOKS HZR HST HIN g0 g1 g2 g3 HI2 HIN3
            generalize mvg p op ia ib n (cvl r.2 (x 0)) (cvl r.2 (x 1)) (cvl r.2 (x 2)) = n2 at *
            generalize cvl r.2 (x 0) = v0 at *
            generalize cvl r.2 (x 1) = v1 at *
            generalize cvl r.2 (x 2) = v2 at *
            generalize x 0 = x0 at *
            generalize x 1 = x1 at *
            generalize x 2 = x2 at *
            go_wp2_with (at_builtin; refine wpList_stp w3 rfl _ _ rfl _ w.heap.size l n.pc n.fp n.ap n.rv x0 x1 x2 v0 v1 v2 HO3.out rfl rfl (by rw [← HNl.out]; omega) HSZ.out ?_)
            intro v' w4 hs4 hb4 hg4
            have HS4 := hid hs4
            have HPK := hid (HI3.out.2.app HG3.out HR3.out HM3.out hs4 hb4)
            have p0 : w4.cell? ⟨w2.heap.size, 0, none⟩ = some (.int .i64 op) := by
              refine (World.cell?_of_block (w := w3) (a := ⟨w2.heap.size, 0, none⟩) (hg4.block _ (World.block_lt_of_cell? _ _ q0) ?_)).trans q0
              intro e
              rcases HO3.out.2 with ⟨h1, _⟩ | ⟨g', cap', cur, h1, hb', hg', _⟩
              · rw [h1] at e; cases e
              · rw [h1] at e
                have e' : some w2.heap.size = some g' := e
                injection e' with e'
                rw [← e', HIN4.out] at hg'
                injection hg' with hg'
                injection hg' with _ h2 _
                exact absurd h2 (by decide)
            clear hs4 hb4 hg4
            by_cases hop : op = 0
            · subst hop
              have HEND : Hid (PkR B R X w (.returned v') w4) := by
                obtain ⟨f', _, h2, _⟩ := HXX.out
                unfold Hid
                rw [h2, if_pos rfl]
                exact ⟨HPK.out.gr, v', rfl, HS4.out, HPK.out.mp, HPK.out.rn.cell (i := 2) (by decide)⟩
              clear HXX HPK HI3
              go_wp2_with fail
              go_ret
              exact HEND.out
            · have hop2 : (op == 0) = false := by simp [hop]
              have HOP := hid hop
              clear hop
              go_wp2_with fail
              go_roundw
              case rel =>
                obtain ⟨f', hf', h2, h5, h6⟩ := HXX.out
                have hfu := HI3.out.1.fuel
                have hll := HLL.out
                have hlt : l.length ≠ limit := fun e => hll ⟨e, HOP.out⟩
                refine ⟨r.2, n2, l ++ [[n.pc, n.fp, n.ap, n.rv, x0, x1, x2, v0, v1, v2]], f', ?_, ⟨?_, ?_, ?_, h5, HZ2.out, h6⟩, HPK.out⟩
                · rcases HS4.out.2 with ⟨h1, h2⟩ | ⟨g, c, cur, h1, _⟩
                  · rw [h1, h2]; rfl
                  · rw [h1]; rfl
                · rw [h2, if_neg HOP.out]
                · rw [List.length_append]; simp; omega
                · omega
              case measure =>
                have h1 : lenW v' = nl + 1 := by
                  rcases HS4.out.2 with ⟨h1, h2⟩ | ⟨g, c, cur, h1, _⟩
                  · rw [List.length_append] at h2; simp at h2
                  · rw [h1, List.length_append, ← HNl.out]; rfl
                rw [h1]
                show _ < limit + 1 - nl
                omega
          · refine ⟨rfl, HGG.out, ?_⟩
            obtain ⟨f', _, h2⟩ := HFX.out
            rw [h2, if_neg (by have := HPC.out; omega), if_neg HLL.out, HSI.out.1, h7, if_pos (by decide)]
            exact .inl ⟨rfl, rfl⟩
          · refine ⟨rfl, HGG.out, ?_⟩
            obtain ⟨f', _, h2⟩ := HFX.out
            rw [h2, if_neg (by have := HPC.out; omega), if_neg HLL.out, HSI.out.1, h10, if_pos (by decide)]
            exact .inr (.inr ⟨rfl, rfl⟩)

end Go.Proofs.YtdpdmgmeieijaaaGreatDoor

namespace Go.Proofs.YtdpdmgmeieijaaaGreatDoor
open Go.RowKit Go.Maps

theorem cmap_nil : CMap (.map []) [] := fun _ _ => ⟨rfl, rfl⟩
/-- a map of one entry: cell 0 is 0 -/
theorem map_first (V : World) (M : Nat) (h0 : V.ownsMap Tryz.prog 3 (plainElem (H := Unit) Tryz.prog 3) M 0 (.map [])) : ∃ w1, (Instr.mapUpdate 61 (.map (some M)) (.int .i64 0) (.int .i64 0)).run Tryz.prog V = .ok () w1 ∧ MapAt w1 M 1 [(0, 0)] ∧ V.grownBy w1 (some M) := by
  obtain ⟨w1, h1, h2, h3⟩ := h0.update keyI Tryz.underlying61 (by decide) (key64 (x := 0) ⟨by decide, by decide⟩) (plainElem_int (H := Unit) Tryz.underlying3 (WalkArith.wf_i64 (n := 0) ⟨by decide, by decide⟩))
  refine ⟨w1, h1, ⟨_, h2, ?_⟩, h3⟩
  exact cmap_put (x := 0) (y := 0) cmap_nil h0.isMap (fun h => absurd h (by decide))

set_option maxRecDepth 100000 in
set_option maxHeartbeats 2000000 in
theorem pbegun_any (p b : Nat) (size : Int) (aL : Option Addr) (nL cL : Nat) (w : World) (h3 : 3 ≤ p) (h4 : p ≤ 2147483647) (hp : w.cell? ⟨b, 0, none⟩ = some (.int .i64 p)) (hs : 0 ≤ size ∧ size ≤ 65536) :
    Calls Tryz.prog 40 #[.pointer (some ⟨b, 0, none⟩), .agg #[.int .i64 size, .slice aL nL cL]] w fun e w' => ∃ R B, e = .returned (.pointer (some ⟨R, 0, none⟩)) ∧ RnAt w' R b B aL nL cL ⟨0, 1, (1 + size) % (p : Int), 0⟩ ∧ MapAt w' B 1 [(0, 0)] ∧ w.heap.size ≤ R ∧ w.heap.size ≤ B ∧ Below w.heap.size w w' := by
  have hmm := @run_makeMap Tryz.prog
  obtain ⟨W0, hW0⟩ : ∃ W0, W0 = w.alloc (.cells #[.int .i64 size, .slice aL nL cL] 24) := ⟨_, rfl⟩
  have hb0 : Below w.heap.size w W0 := by rw [hW0]; exact (Below.refl _ _).alloc (Nat.le_refl _) _
  obtain ⟨C, hC⟩ : ∃ C, C = w.heap.size := ⟨_, rfl⟩
  have hc0 : W0.heap[C]? = some (.cells #[.int .i64 size, .slice aL nL cL] 24 (0, 0)) := by rw [hC, hW0]; exact heap_alloc_new w _
  have c0 : W0.cell? ⟨C, 0, none⟩ = some (.int .i64 size) := by simp [World.cell?, hc0]
  have c1 : W0.cell? ⟨C, 1, none⟩ = some (.slice aL nL cL) := by simp [World.cell?, hc0]
  have hp0 := (hb0.cell (p := ⟨b, 0, none⟩) (World.block_lt_of_cell? _ _ hp)).trans hp
  have HKP : Hid (∀ W, Below W0.heap.size W0 W → (fun W => W.cell? ⟨C, 0, none⟩ = some (.int .i64 size) ∧ W.cell? ⟨C, 1, none⟩ = some (.slice aL nL cL)) W) := fun W hb => ⟨(hb.cell (p := ⟨C, 0, none⟩) (World.block_lt_of_cell? _ _ c0)).trans c0, (hb.cell (p := ⟨C, 1, none⟩) (World.block_lt_of_cell? _ _ c1)).trans c1⟩
  obtain ⟨z, hz⟩ : ∃ z, z = (1 + size) % (p : Int) := ⟨_, rfl⟩
  have HAD : Hid (∀ W, Below W0.heap.size W0 W → Calls Tryz.prog 52 #[.pointer (some ⟨b, 0, none⟩), .int .i64 1, .int .i64 size] W fun e w' => e = .returned (.int .i64 z) ∧ w' = W) := fun W hb => by
    rw [hz]
    exact add_any p b 1 size W h3 h4 ((hb.cell (p := ⟨b, 0, none⟩) (World.block_lt_of_cell? _ _ hp0)).trans hp0) (by decide) (by decide) (by omega) (by omega)
  have HB0 := hid hb0
  have HCC := hid hC
  rw [← hz]
  clear hz hp hp0 hc0 hb0 hs h3 h4
  go_enter Tryz.func40, Tryz.ntmps40
  go_wp2_with fail
  rw [← hW0, ← hC]
  clear hW0 hC
  have hbd : Below W0.heap.size W0 W0.drew := ⟨rfl, rfl, rfl, Nat.le_refl _, fun _ _ => rfl⟩
  refine wp_region_held_drew (S := (fun W => W.cell? ⟨C, 0, none⟩ = some (.int .i64 size) ∧ W.cell? ⟨C, 1, none⟩ = some (.slice aL nL cL))) (by kernel_rfl) ⟨c0, c1⟩ (fun hHeld => ?_)
  refine wpAnyH_takeW (i := 0) (v := .pointer (some ⟨b, 0, none⟩)) rfl (by kernel_rfl) (by kernel_rfl) (by kernel_rfl) (fun _ _ _ h => h) (by rfl) (fun W hC => by (obtain ⟨y0, y1⟩ := hC); go_simp) hHeld ?_
  simp only [Act.put, List.setIfInBounds_toArray, List.set_cons_zero, List.set_cons_succ]
  refine wpAnyH_takeW (i := 1) (v := .pointer (some ⟨C, 1, none⟩)) rfl (by kernel_rfl) (by kernel_rfl) (by kernel_rfl) (fun _ _ _ h => h) (by rfl) (fun W hC => by (obtain ⟨y0, y1⟩ := hC); go_simp) hHeld ?_
  simp only [Act.put, List.setIfInBounds_toArray, List.set_cons_zero, List.set_cons_succ]
  refine wpAnyH_takeW (i := 2) (v := .slice aL nL cL) rfl (by kernel_rfl) (by kernel_rfl) (by kernel_rfl) (fun _ _ _ h => h) (by rfl) (fun W hC => by (obtain ⟨y0, y1⟩ := hC); go_simp) hHeld ?_
  simp only [Act.put, List.setIfInBounds_toArray, List.set_cons_zero, List.set_cons_succ]
  refine wpAnyH_takeW (i := 6) (v := .pointer (some ⟨b, 0, none⟩)) rfl (by kernel_rfl) (by kernel_rfl) (by kernel_rfl) (fun _ _ _ h => h) (by rfl) (fun W hC => by (obtain ⟨y0, y1⟩ := hC); go_simp) hHeld ?_
  simp only [Act.put, List.setIfInBounds_toArray, List.set_cons_zero, List.set_cons_succ]
  refine wpAnyH_takeW (i := 7) (v := .pointer (some ⟨C, 0, none⟩)) rfl (by kernel_rfl) (by kernel_rfl) (by kernel_rfl) (fun _ _ _ h => h) (by rfl) (fun W hC => by (obtain ⟨y0, y1⟩ := hC); go_simp) hHeld ?_
  simp only [Act.put, List.setIfInBounds_toArray, List.set_cons_zero, List.set_cons_succ]
  refine wpAnyH_takeW (i := 8) (v := .int .i64 size) rfl (by kernel_rfl) (by kernel_rfl) (by kernel_rfl) (fun _ _ _ h => h) (by rfl) (fun W hC => by (obtain ⟨y0, y1⟩ := hC); go_simp) hHeld ?_
  simp only [Act.put, List.setIfInBounds_toArray, List.set_cons_zero, List.set_cons_succ]
  have hbm : Below W0.heap.size W0 (W0.alloc (.map #[] 0)).drew := ((Below.refl W0.heap.size W0).alloc (Nat.le_refl _) (.map #[] 0)).drew
  obtain ⟨w1, hrun, hma, hgr⟩ := map_first (W0.alloc (.map #[] 0)).drew W0.heap.size (World.ownsMap_made (H := Unit) W0 Tryz.prog 3 (plainElem Tryz.prog 3)).drew
  have hb1 : Below W0.heap.size W0 w1 := hbm.trans (gb_toM hgr (Nat.le_refl _) hbm.size)
  refine share (F := ?F) (Good := fun M W => Below W0.heap.size W0 W ∧ MapAt W M 1 [(0, 0)] ∧ W0.heap.size ≤ M) (fun REST => ?b1) ?b2
  case b1 =>
    refine wpAnyH_ready (rs := [3, 9]) (by kernel_rfl) (by simp) ?_
    refine AllReadyH.consW rfl (fun K hK => ?_) (AllReadyH.consW rfl (fun K hK => ?_) AllReadyH.nil)
    · go_simp
      refine hK.out _ _ (HKP.out _ hbm) (fun hHeld => ?_)
      clear hK K
      refine wpAnyH_ready (rs := [4, 9]) (by kernel_rfl) (by simp) ?_
      refine AllReadyH.consW rfl (fun K hK => ?_) (AllReadyH.consW rfl (fun K hK => ?_) AllReadyH.nil)
      · go_simp
        refine hK.out _ _ (HKP.out _ hb1) (fun hHeld => ?_)
        clear hK K
        refine wpAnyH_takeW (i := 5) (v := .map (some W0.heap.size)) rfl (by kernel_rfl) (by kernel_rfl) (by kernel_rfl) (fun _ _ _ h => h) (by rfl) (fun W hC => by (obtain ⟨y0, y1⟩ := hC); go_simp) hHeld ?_
        simp only [Act.put, List.setIfInBounds_toArray, List.set_cons_zero, List.set_cons_succ]
        refine wpAnyH_ready (rs := [9]) (by kernel_rfl) (by simp) ?_
        refine AllReadyH.consW rfl (fun K hK => ?_) AllReadyH.nil
        go_simp
        refine (HAD.out _ hb1).mono ?_
        rintro e wa ⟨rfl, hwa⟩
        rw [hwa]
        clear hwa wa
        refine hK.out _ _ (HKP.out _ hb1) (fun hHeld => ?_)
        clear hK K hHeld
        have hma2 : MapAt w1 W0.heap.size 1 [(0, 0)] := hma
        generalize hM : W0.heap.size = M at hma2 ⊢
        exact REST M w1 ⟨hb1, hma2, Nat.le_of_eq hM⟩
      · go_simp
        refine (HAD.out _ hbm).mono ?_
        rintro e wa ⟨rfl, hwa⟩
        rw [hwa]
        clear hwa wa
        refine hK.out _ _ (HKP.out _ hbm) (fun hHeld => ?_)
        clear hK K
        refine wpAnyH_ready (rs := [4]) (by kernel_rfl) (by simp) ?_
        refine AllReadyH.consW rfl (fun K hK => ?_) AllReadyH.nil
        go_simp
        refine hK.out _ _ (HKP.out _ hb1) (fun hHeld => ?_)
        clear hK K
        refine wpAnyH_takeW (i := 5) (v := .map (some W0.heap.size)) rfl (by kernel_rfl) (by kernel_rfl) (by kernel_rfl) (fun _ _ _ h => h) (by rfl) (fun W hC => by (obtain ⟨y0, y1⟩ := hC); go_simp) hHeld ?_
        simp only [Act.put, List.setIfInBounds_toArray, List.set_cons_zero, List.set_cons_succ]
        exact REST W0.heap.size w1 ⟨hb1, hma, Nat.le_refl _⟩
    · go_simp
      refine (HAD.out _ hbd).mono ?_
      rintro e wa ⟨rfl, hwa⟩
      rw [hwa]
      clear hwa wa
      refine hK.out _ _ (HKP.out _ hbd) (fun hHeld => ?_)
      clear hK K
      refine wpAnyH_ready (rs := [3]) (by kernel_rfl) (by simp) ?_
      refine AllReadyH.consW rfl (fun K hK => ?_) AllReadyH.nil
      go_simp
      refine hK.out _ _ (HKP.out _ hbm) (fun hHeld => ?_)
      clear hK K
      refine wpAnyH_ready (rs := [4]) (by kernel_rfl) (by simp) ?_
      refine AllReadyH.consW rfl (fun K hK => ?_) AllReadyH.nil
      go_simp
      refine hK.out _ _ (HKP.out _ hb1) (fun hHeld => ?_)
      clear hK K
      refine wpAnyH_takeW (i := 5) (v := .map (some W0.heap.size)) rfl (by kernel_rfl) (by kernel_rfl) (by kernel_rfl) (fun _ _ _ h => h) (by rfl) (fun W hC => by (obtain ⟨y0, y1⟩ := hC); go_simp) hHeld ?_
      simp only [Act.put, List.setIfInBounds_toArray, List.set_cons_zero, List.set_cons_succ]
      exact REST W0.heap.size w1 ⟨hb1, hma, Nat.le_refl _⟩
  case b2 =>
    rintro M W ⟨hbW, hmW, hMs⟩
    have hHeld := HKP.out W hbW
    refine wpAnyH_takeW (i := 10) (v := .agg #[.pointer (some ⟨b, 0, none⟩), .slice aL nL cL, .map (some M), .int .i64 0, .int .i64 1, .int .i64 z, .int .i64 0]) rfl (by kernel_rfl) (by kernel_rfl) (by kernel_rfl) (fun _ _ _ h => h) (by rfl) (fun W hC => by (obtain ⟨y0, y1⟩ := hC); go_simp) hHeld ?_
    simp only [Act.put, List.setIfInBounds_toArray, List.set_cons_zero, List.set_cons_succ]
    have hba := hbW.trans (((Below.refl W.heap.size W).alloc (Nat.le_refl _) (.cells #[.pointer (some ⟨b, 0, none⟩), .slice aL nL cL, .map (some M), .int .i64 0, .int .i64 1, .int .i64 z, .int .i64 0] 94)).mono hbW.size)
    have HEND : Hid (RnAt (W.alloc (.cells #[.pointer (some ⟨b, 0, none⟩), .slice aL nL cL, .map (some M), .int .i64 0, .int .i64 1, .int .i64 z, .int .i64 0] 94)) W.heap.size b M aL nL cL ⟨0, 1, z, 0⟩ ∧ MapAt (W.alloc (.cells #[.pointer (some ⟨b, 0, none⟩), .slice aL nL cL, .map (some M), .int .i64 0, .int .i64 1, .int .i64 z, .int .i64 0] 94)) M 1 [(0, 0)] ∧ w.heap.size ≤ W.heap.size ∧ w.heap.size ≤ M ∧ Below w.heap.size w (W.alloc (.cells #[.pointer (some ⟨b, 0, none⟩), .slice aL nL cL, .map (some M), .int .i64 0, .int .i64 1, .int .i64 z, .int .i64 0] 94))) := by
      have h1 := HB0.out.size
      have h2 := hbW.size
      refine ⟨row_newM W _ _ 7 _ rfl (fun i hi => by rcases seven hi with rfl | rfl | rfl | rfl | rfl | rfl | rfl <;> rfl), ?_, by omega, by omega, HB0.out.trans (hba.mono HB0.out.size)⟩
      obtain ⟨D, d1, d2⟩ := hmW
      exact ⟨D, d1.alloc _, d2⟩
    refine wpAnyH_ready (rs := [11]) (by kernel_rfl) (by simp) ?_
    refine AllReadyH.consW rfl (fun K hK => ?_) AllReadyH.nil
    go_simp
    refine hK.out _ _ (HKP.out _ hba) (fun hHeld => ?_)
    clear hK K
    refine wpAnyH_takeW (i := 12) (v := .pointer (some ⟨W.heap.size, 0, none⟩)) rfl (by kernel_rfl) (by kernel_rfl) (by kernel_rfl) (fun _ _ _ h => h) (by rfl) (fun W hC => by (obtain ⟨y0, y1⟩ := hC); go_simp) hHeld ?_
    simp only [Act.put, List.setIfInBounds_toArray, List.set_cons_zero, List.set_cons_succ]
    refine wpAnyH_done (by kernel_rfl) ?_ _
    clear hHeld hba hbW hmW hMs HKP HAD hma hgr hb1 hbm hrun
    go_wp2_with fail
    go_ret
    exact ⟨W.heap.size, M, rfl, HEND.out.1, HEND.out.2.1, HEND.out.2.2.1, HEND.out.2.2.2.1, HEND.out.2.2.2.2⟩

end Go.Proofs.YtdpdmgmeieijaaaGreatDoor

namespace Go.Proofs.YtdpdmgmeieijaaaGreatDoor
open Go.RowKit Go.Maps

/-- an error, or none -/
def errV (z : Int) : Value := if z = 0 then .nilIface else .iface 68 (.int .i64 z)
set_option maxRecDepth 100000 in
set_option maxHeartbeats 2000000 in
theorem pwrong_any (p b : Nat) (size limit : Int) (aL : Option Addr) (nL cL : Nat) (w : World) (hp : w.cell? ⟨b, 0, none⟩ = some (.int .i64 p)) (hn : nL ≤ 281474976710656) :
    Calls Tryz.prog 38 #[.pointer (some ⟨b, 0, none⟩), .agg #[.int .i64 size, .slice aL nL cL], .int .i64 limit] w fun e w' => e = .returned (errV (fz6 (p : Int) size nL limit)) ∧ Below w.heap.size w w' := by
  have hmx : Tryz.prog.follows .mixedOrders = true := by kernel_rfl
  obtain ⟨W0, hW0⟩ : ∃ W0, W0 = w.alloc (.cells #[.int .i64 size, .slice aL nL cL] 24) := ⟨_, rfl⟩
  have hb0 : Below w.heap.size w W0 := by rw [hW0]; exact (Below.refl _ _).alloc (Nat.le_refl _) _
  obtain ⟨C, hC⟩ : ∃ C, C = w.heap.size := ⟨_, rfl⟩
  have hc0 : W0.heap[C]? = some (.cells #[.int .i64 size, .slice aL nL cL] 24 (0, 0)) := by rw [hC, hW0]; exact heap_alloc_new w _
  have c0 : W0.cell? ⟨C, 0, none⟩ = some (.int .i64 size) := by simp [World.cell?, hc0]
  have c1 : W0.cell? ⟨C, 1, none⟩ = some (.slice aL nL cL) := by simp [World.cell?, hc0]
  have hp0 := (hb0.cell (p := ⟨b, 0, none⟩) (World.block_lt_of_cell? _ _ hp)).trans hp
  have HPC := hid (p_any p b W0.drew hp0)
  have HB0 := hid hb0
  obtain ⟨z, hz⟩ : ∃ z, z = fz6 (p : Int) size nL limit := ⟨_, rfl⟩
  have HZ := hid hz
  rw [← hz]
  clear hz hp hp0 hc0 hb0
  by_cases h1 : size < 0 ∨ 65536 < size
  · have HE : Hid (z = 2) := by unfold Hid; rw [HZ.out, fz6, if_pos (by omega)]
    by_cases h2 : size < 0
    · clear h1
      go_enter Tryz.func38, Tryz.ntmps38
      go_wp2_with fail
      rw [← hW0]
      go_ret
      exact ⟨by rw [HE.out]; rfl, HB0.out⟩
    · have h3 : 65536 < size := by omega
      clear h1
      go_enter Tryz.func38, Tryz.ntmps38
      go_wp2_with fail
      rw [← hW0]
      go_ret
      exact ⟨by rw [HE.out]; rfl, HB0.out⟩
  · have h2 : ¬ size < 0 := by omega
    have h3 : ¬ 65536 < size := by omega
    clear h1
    by_cases h4 : nL = 0 ∨ 4096 < nL
    · have HE : Hid (z = 2) := by unfold Hid; rw [HZ.out, fz6, if_pos (by omega)]
      by_cases h5 : nL = 0
      · have q1 : ((nL : Int) == 0) = true := by rw [h5]; rfl
        clear h4 h5
        go_enter Tryz.func38, Tryz.ntmps38
        go_wp2_with fail
        rw [← hW0, ← hC]
        clear hW0 hC
        go_quiet (fail)
        go_wp2_with fail
        go_ret
        exact ⟨by rw [HE.out]; rfl, HB0.out.trans ((belM W0 nq).mono HB0.out.size)⟩
      · have q1 : ((nL : Int) == 0) = false := by rw [beq_eq_false_iff_ne]; omega
        have q2 : 4096 < (nL : Int) := by omega
        clear h4 h5
        go_enter Tryz.func38, Tryz.ntmps38
        go_wp2_with fail
        rw [← hW0, ← hC]
        clear hW0 hC
        go_quiet (fail)
        go_wp2_with fail
        go_ret
        exact ⟨by rw [HE.out]; rfl, HB0.out.trans ((belM W0 nq).mono HB0.out.size)⟩
    · have q1 : ((nL : Int) == 0) = false := by rw [beq_eq_false_iff_ne]; omega
      have q2 : ¬ 4096 < (nL : Int) := by omega
      by_cases h5 : (p : Int) < (nL : Int)
      · have HE : Hid (z = 2) := by unfold Hid; rw [HZ.out, fz6, if_pos (by omega)]
        clear h4
        go_enter Tryz.func38, Tryz.ntmps38
        go_wp2_with fail
        rw [← hW0, ← hC]
        clear hW0 hC
        refine wp_region_still_lit hmx (by kernel_rfl) ?_
        repeat still_step
        still_call HPC.out
        repeat still_step
        refine wpStill_nil ?_
        go_wp2_with fail
        go_ret
        exact ⟨by rw [HE.out]; rfl, HB0.out.drew⟩
      · have h6 : ¬ (p : Int) < (nL : Int) := h5
        have HNF : Hid (¬ (size < 0 ∨ 65536 < size ∨ nL = 0 ∨ 4096 < nL ∨ (p : Int) < (nL : Int))) := by unfold Hid; omega
        clear h5 h4
        by_cases h7 : limit < 0 ∨ 16384 < limit
        · have HE : Hid (z = 3) := by unfold Hid; rw [HZ.out, fz6, if_neg HNF.out, if_pos h7]
          by_cases h8 : limit < 0
          · clear h7
            go_enter Tryz.func38, Tryz.ntmps38
            go_wp2_with fail
            rw [← hW0, ← hC]
            clear hW0 hC
            refine wp_region_still_lit hmx (by kernel_rfl) ?_
            repeat still_step
            still_call HPC.out
            repeat still_step
            refine wpStill_nil ?_
            go_wp2_with fail
            go_ret
            exact ⟨by rw [HE.out]; rfl, HB0.out.drew⟩
          · have h9 : 16384 < limit := by omega
            clear h7
            go_enter Tryz.func38, Tryz.ntmps38
            go_wp2_with fail
            rw [← hW0, ← hC]
            clear hW0 hC
            refine wp_region_still_lit hmx (by kernel_rfl) ?_
            repeat still_step
            still_call HPC.out
            repeat still_step
            refine wpStill_nil ?_
            go_wp2_with fail
            go_ret
            exact ⟨by rw [HE.out]; rfl, HB0.out.drew⟩
        · have HE : Hid (z = 0) := by unfold Hid; rw [HZ.out, fz6, if_neg HNF.out, if_neg h7]
          have h8 : ¬ limit < 0 := by omega
          have h9 : ¬ 16384 < limit := by omega
          clear h7
          go_enter Tryz.func38, Tryz.ntmps38
          go_wp2_with fail
          rw [← hW0, ← hC]
          clear hW0 hC
          refine wp_region_still_lit hmx (by kernel_rfl) ?_
          repeat still_step
          still_call HPC.out
          repeat still_step
          refine wpStill_nil ?_
          go_wp2_with fail
          go_ret
          exact ⟨by rw [HE.out]; rfl, HB0.out.drew⟩

end Go.Proofs.YtdpdmgmeieijaaaGreatDoor

namespace Go.Proofs.YtdpdmgmeieijaaaGreatDoor
open Go.RowKit Go.Maps

theorem fr23 (a b c v : Value) : (#[a, b, c] ++ (Array.replicate 20 undef).setIfInBounds 5 v : Array Value) = #[a, b, c, undef, undef, undef, undef, undef, v, undef, undef, undef, undef, undef, undef, undef, undef, undef, undef, undef, undef, undef, undef] := by kernel_rfl
theorem eq_nil (w : World) : (binOp BinOp.eql 20 .nilIface .nilIface).run Tryz.prog w = .ok (.bool true) w := by kernel_rfl

set_option maxRecDepth 100000 in
set_option maxHeartbeats 400000 in
theorem catch_idle (p q r : Addr) (w : World) :
    CallsD Tryz.prog 39 #[.pointer (some p), .pointer (some q), .pointer (some r)] .returning w fun e u' w' => e = .returned (.tuple #[]) ∧ u' = .returning ∧ w' = w := by
  refine callsD_of_wpS Tryz.func39 rfl fun c₀ cs hu => ?_
  have hnil := eq_nil
  apply wpS_seq
  apply wpS_region
  simp [wpOpsS, go_sem, recoverD, hu, Tryz.ntmps39, Exit.thenS]
  rw [fr23]
  refine wpS_of_wp ?_
  go_wp2_with fail
  cases c₀
  simp_all [bodyPostS, results, Tryz.results39]

theorem frozen_alloc_old (w : World) (o : Obj) {p : Addr} (h : p.block < w.heap.size) : (w.alloc o).frozen? p = w.frozen? p := by
  have e : (w.alloc o).heap[p.block]? = w.heap[p.block]? := heap_alloc_old w o h
  unfold World.frozen?
  rw [e]
theorem ne_nil (T : TypeId) (w : World) : (binOp BinOp.eql 20 (.iface T (.agg #[])) .nilIface).run Tryz.prog w = .ok (.bool false) w := by kernel_rfl
theorem ta_blank_blank (w : World) : (Instr.typeAssert (.iface 87 (.agg #[])) 20 87 true).run Tryz.prog w = .ok (.tuple #[.agg #[], .bool true]) w := by kernel_rfl
theorem ta_blank_stuck (w : World) : (Instr.typeAssert (.iface 87 (.agg #[])) 20 88 true).run Tryz.prog w = .ok (.tuple #[.agg #[], .bool false]) w := by kernel_rfl
theorem ta_blank_long (w : World) : (Instr.typeAssert (.iface 87 (.agg #[])) 20 89 true).run Tryz.prog w = .ok (.tuple #[.agg #[], .bool false]) w := by kernel_rfl
theorem ta_stuck_blank (w : World) : (Instr.typeAssert (.iface 88 (.agg #[])) 20 87 true).run Tryz.prog w = .ok (.tuple #[.agg #[], .bool false]) w := by kernel_rfl
theorem ta_stuck_stuck (w : World) : (Instr.typeAssert (.iface 88 (.agg #[])) 20 88 true).run Tryz.prog w = .ok (.tuple #[.agg #[], .bool true]) w := by kernel_rfl
theorem ta_stuck_long (w : World) : (Instr.typeAssert (.iface 88 (.agg #[])) 20 89 true).run Tryz.prog w = .ok (.tuple #[.agg #[], .bool false]) w := by kernel_rfl
theorem ta_long_blank (w : World) : (Instr.typeAssert (.iface 89 (.agg #[])) 20 87 true).run Tryz.prog w = .ok (.tuple #[.agg #[], .bool false]) w := by kernel_rfl
theorem ta_long_stuck (w : World) : (Instr.typeAssert (.iface 89 (.agg #[])) 20 88 true).run Tryz.prog w = .ok (.tuple #[.agg #[], .bool false]) w := by kernel_rfl
theorem ta_long_long (w : World) : (Instr.typeAssert (.iface 89 (.agg #[])) 20 89 true).run Tryz.prog w = .ok (.tuple #[.agg #[], .bool true]) w := by kernel_rfl

set_option maxRecDepth 100000 in
set_option maxHeartbeats 400000 in
theorem catch_blank (P Q R : Nat) (a b c : Value) (w : World) (h1 : w.cell? ⟨P, 0, none⟩ = some a) (h2 : w.cell? ⟨Q, 0, none⟩ = some b) (h3 : w.cell? ⟨R, 0, none⟩ = some c) (f1 : w.frozen? ⟨P, 0, none⟩ = false) (f2 : w.frozen? ⟨Q, 0, none⟩ = false) (f3 : w.frozen? ⟨R, 0, none⟩ = false) (hPQ : P ≠ Q) (hPR : P ≠ R) (hQR : Q ≠ R) :
    CallsD Tryz.prog 39 #[.pointer (some ⟨P, 0, none⟩), .pointer (some ⟨Q, 0, none⟩), .pointer (some ⟨R, 0, none⟩)] (.panicking [{ v := .iface 87 (.agg #[]), recovered := false }]) w fun e u' w' => e = .returned (.tuple #[]) ∧ u' = .panicking [{ v := .iface 87 (.agg #[]), recovered := true }] ∧ w' = ((((w.alloc (.cells #[] 87)).setCell ⟨P, 0, none⟩ (.slice none 0 0)).setCell ⟨Q, 0, none⟩ (.map none)).setCell ⟨R, 0, none⟩ (.iface 68 (.int .i64 10))) := by
  refine callsD_of_wpS Tryz.func39 rfl fun c₀ cs hu => ?_
  have hnil := ne_nil
  have ta_blank := ta_blank_blank
  have ta_stuck := ta_blank_stuck
  have ta_long := ta_blank_long
  have k1 : (w.alloc (.cells #[] 87)).cell? ⟨P, 0, none⟩ = some a := (((Below.refl w.heap.size w).alloc (Nat.le_refl _) _).cell (p := ⟨P, 0, none⟩) (World.block_lt_of_cell? _ _ h1)).trans h1
  have m1 : (w.alloc (.cells #[] 87)).frozen? ⟨P, 0, none⟩ = false := by rw [frozen_alloc_old w _ (World.block_lt_of_cell? _ _ h1)]; exact f1
  have k2 : (w.alloc (.cells #[] 87)).cell? ⟨Q, 0, none⟩ = some b := (((Below.refl w.heap.size w).alloc (Nat.le_refl _) _).cell (p := ⟨Q, 0, none⟩) (World.block_lt_of_cell? _ _ h2)).trans h2
  have m2 : (w.alloc (.cells #[] 87)).frozen? ⟨Q, 0, none⟩ = false := by rw [frozen_alloc_old w _ (World.block_lt_of_cell? _ _ h2)]; exact f2
  have k3 : (w.alloc (.cells #[] 87)).cell? ⟨R, 0, none⟩ = some c := (((Below.refl w.heap.size w).alloc (Nat.le_refl _) _).cell (p := ⟨R, 0, none⟩) (World.block_lt_of_cell? _ _ h3)).trans h3
  have m3 : (w.alloc (.cells #[] 87)).frozen? ⟨R, 0, none⟩ = false := by rw [frozen_alloc_old w _ (World.block_lt_of_cell? _ _ h3)]; exact f3
  clear h1 h2 h3 f1 f2 f3
  apply wpS_seq
  apply wpS_region
  simp [wpOpsS, go_sem, recoverD, hu, Tryz.ntmps39, Exit.thenS]
  rw [fr23]
  refine wpS_of_wp ?_
  go_wp2_with fail
  simp [bodyPostS, results, Tryz.results39]

set_option maxRecDepth 100000 in
set_option maxHeartbeats 400000 in
theorem catch_stuck (P Q R : Nat) (a b c : Value) (w : World) (h1 : w.cell? ⟨P, 0, none⟩ = some a) (h2 : w.cell? ⟨Q, 0, none⟩ = some b) (h3 : w.cell? ⟨R, 0, none⟩ = some c) (f1 : w.frozen? ⟨P, 0, none⟩ = false) (f2 : w.frozen? ⟨Q, 0, none⟩ = false) (f3 : w.frozen? ⟨R, 0, none⟩ = false) (hPQ : P ≠ Q) (hPR : P ≠ R) (hQR : Q ≠ R) :
    CallsD Tryz.prog 39 #[.pointer (some ⟨P, 0, none⟩), .pointer (some ⟨Q, 0, none⟩), .pointer (some ⟨R, 0, none⟩)] (.panicking [{ v := .iface 88 (.agg #[]), recovered := false }]) w fun e u' w' => e = .returned (.tuple #[]) ∧ u' = .panicking [{ v := .iface 88 (.agg #[]), recovered := true }] ∧ w' = ((((w.alloc (.cells #[] 88)).setCell ⟨P, 0, none⟩ (.slice none 0 0)).setCell ⟨Q, 0, none⟩ (.map none)).setCell ⟨R, 0, none⟩ (.iface 68 (.int .i64 7))) := by
  refine callsD_of_wpS Tryz.func39 rfl fun c₀ cs hu => ?_
  have hnil := ne_nil
  have ta_blank := ta_stuck_blank
  have ta_stuck := ta_stuck_stuck
  have ta_long := ta_stuck_long
  have k1 : (w.alloc (.cells #[] 88)).cell? ⟨P, 0, none⟩ = some a := (((Below.refl w.heap.size w).alloc (Nat.le_refl _) _).cell (p := ⟨P, 0, none⟩) (World.block_lt_of_cell? _ _ h1)).trans h1
  have m1 : (w.alloc (.cells #[] 88)).frozen? ⟨P, 0, none⟩ = false := by rw [frozen_alloc_old w _ (World.block_lt_of_cell? _ _ h1)]; exact f1
  have k2 : (w.alloc (.cells #[] 88)).cell? ⟨Q, 0, none⟩ = some b := (((Below.refl w.heap.size w).alloc (Nat.le_refl _) _).cell (p := ⟨Q, 0, none⟩) (World.block_lt_of_cell? _ _ h2)).trans h2
  have m2 : (w.alloc (.cells #[] 88)).frozen? ⟨Q, 0, none⟩ = false := by rw [frozen_alloc_old w _ (World.block_lt_of_cell? _ _ h2)]; exact f2
  have k3 : (w.alloc (.cells #[] 88)).cell? ⟨R, 0, none⟩ = some c := (((Below.refl w.heap.size w).alloc (Nat.le_refl _) _).cell (p := ⟨R, 0, none⟩) (World.block_lt_of_cell? _ _ h3)).trans h3
  have m3 : (w.alloc (.cells #[] 88)).frozen? ⟨R, 0, none⟩ = false := by rw [frozen_alloc_old w _ (World.block_lt_of_cell? _ _ h3)]; exact f3
  clear h1 h2 h3 f1 f2 f3
  apply wpS_seq
  apply wpS_region
  simp [wpOpsS, go_sem, recoverD, hu, Tryz.ntmps39, Exit.thenS]
  rw [fr23]
  refine wpS_of_wp ?_
  go_wp2_with fail
  simp [bodyPostS, results, Tryz.results39]

set_option maxRecDepth 100000 in
set_option maxHeartbeats 400000 in
theorem catch_long (P Q R : Nat) (a b c : Value) (w : World) (h1 : w.cell? ⟨P, 0, none⟩ = some a) (h2 : w.cell? ⟨Q, 0, none⟩ = some b) (h3 : w.cell? ⟨R, 0, none⟩ = some c) (f1 : w.frozen? ⟨P, 0, none⟩ = false) (f2 : w.frozen? ⟨Q, 0, none⟩ = false) (f3 : w.frozen? ⟨R, 0, none⟩ = false) (hPQ : P ≠ Q) (hPR : P ≠ R) (hQR : Q ≠ R) :
    CallsD Tryz.prog 39 #[.pointer (some ⟨P, 0, none⟩), .pointer (some ⟨Q, 0, none⟩), .pointer (some ⟨R, 0, none⟩)] (.panicking [{ v := .iface 89 (.agg #[]), recovered := false }]) w fun e u' w' => e = .returned (.tuple #[]) ∧ u' = .panicking [{ v := .iface 89 (.agg #[]), recovered := true }] ∧ w' = ((((w.alloc (.cells #[] 89)).setCell ⟨P, 0, none⟩ (.slice none 0 0)).setCell ⟨Q, 0, none⟩ (.map none)).setCell ⟨R, 0, none⟩ (.iface 68 (.int .i64 8))) := by
  refine callsD_of_wpS Tryz.func39 rfl fun c₀ cs hu => ?_
  have hnil := ne_nil
  have ta_blank := ta_long_blank
  have ta_stuck := ta_long_stuck
  have ta_long := ta_long_long
  have k1 : (w.alloc (.cells #[] 89)).cell? ⟨P, 0, none⟩ = some a := (((Below.refl w.heap.size w).alloc (Nat.le_refl _) _).cell (p := ⟨P, 0, none⟩) (World.block_lt_of_cell? _ _ h1)).trans h1
  have m1 : (w.alloc (.cells #[] 89)).frozen? ⟨P, 0, none⟩ = false := by rw [frozen_alloc_old w _ (World.block_lt_of_cell? _ _ h1)]; exact f1
  have k2 : (w.alloc (.cells #[] 89)).cell? ⟨Q, 0, none⟩ = some b := (((Below.refl w.heap.size w).alloc (Nat.le_refl _) _).cell (p := ⟨Q, 0, none⟩) (World.block_lt_of_cell? _ _ h2)).trans h2
  have m2 : (w.alloc (.cells #[] 89)).frozen? ⟨Q, 0, none⟩ = false := by rw [frozen_alloc_old w _ (World.block_lt_of_cell? _ _ h2)]; exact f2
  have k3 : (w.alloc (.cells #[] 89)).cell? ⟨R, 0, none⟩ = some c := (((Below.refl w.heap.size w).alloc (Nat.le_refl _) _).cell (p := ⟨R, 0, none⟩) (World.block_lt_of_cell? _ _ h3)).trans h3
  have m3 : (w.alloc (.cells #[] 89)).frozen? ⟨R, 0, none⟩ = false := by rw [frozen_alloc_old w _ (World.block_lt_of_cell? _ _ h3)]; exact f3
  clear h1 h2 h3 f1 f2 f3
  apply wpS_seq
  apply wpS_region
  simp [wpOpsS, go_sem, recoverD, hu, Tryz.ntmps39, Exit.thenS]
  rw [fr23]
  refine wpS_of_wp ?_
  go_wp2_with fail
  simp [bodyPostS, results, Tryz.results39]

end Go.Proofs.YtdpdmgmeieijaaaGreatDoor
