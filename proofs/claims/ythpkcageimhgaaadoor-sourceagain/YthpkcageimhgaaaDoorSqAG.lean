/- Package source: sum. Package source: product. -/
import Derived.Test.YthpkcageimhgaaaDoorSrO
namespace Go.Proofs.YthpkcageimhgaaaDoor
open Go.RowKit

set_option maxRecDepth 100000 in
set_option maxHeartbeats 2000000 in
theorem sumX (R : Nat) (T : ByteArray) (f j l : Nat) (w : World) (hP : ∀ g, g ≤ f → PC R T g) (hR : RdAt w R T j l) (hl : l ≤ 64) (r : Res Tr) (hr : r = pSum (by' T) (f + 1) j l) (hro : r ≠ .out) :
    Calls Tryd.prog 58 #[.pointer (some ⟨R, 0, none⟩)] w (Rx w R T l l (VX w.heap.size) r) := by
  have hmf : ∀ (fn : Go.Fn) (first cap : Array Value) (w : World), (Instr.makeFunc fn first cap).run Tryd.prog w = .ok (.func fn first cap) w := fun _ _ _ _ => rfl
  have hF : ∀ args w, (callFunc 65 args).run Tryd.prog w = .ok (.enter 65 args) w := enters_of Tryd.func65 (by kernel_rfl) rfl
  have hlt := hR.lt
  have HP := hid hP
  rw [pSum] at hr
  have hne0 : pProd (by' T) f j l ≠ .out := fun e => by rw [e] at hr; exact hro hr
  have HC0 := hid (hP f (Nat.le_refl _) j l w hR hl hne0)
  have HR := hid hr
  have HRO := hid hro
  have HFF := hid hF
  clear hR hr hro hP hF
  go_enter Tryd.func58, Tryd.ntmps58
  go_wp2_with fail
  refine HC0.out.mono ?_
  intro e w0 he
  have hr2 := HR.out
  cases ht : pProd (by' T) f j l with
  | out => exact absurd ht hne0
  | bad er at' =>
    rw [ht] at he hr2
    obtain ⟨h5, rfl, h6⟩ := he
    simp only [Res.bind] at hr2
    subst hr2
    exact ⟨rfl, h5, rfl, h6⟩
  | ok x0 a0 =>
    rw [ht] at he hr2
    obtain ⟨h5, v, rfl, hv, h6⟩ := he
    obtain ⟨q0, rfl⟩ := hv.form
    simp only [Res.bind] at hr2
    have HF0 := hid h5
    have HD0 := hid h6
    have HV0 : Hid (PT w.heap.size w0 x0 (.pointer (some ⟨q0, 0, none⟩))) := hv
    have HR0 := hid hr2
    clear hv h5 h6 hr2 ht hne0 HC0 HR
    go_wp2_with fail
    go_loopw [3] (fun v wr => ∃ (x : Tr) (a : Nat), Hid (Fr R w wr) ∧ Hid (RdAt wr R T a l) ∧ Hid (PT w.heap.size wr x v) ∧ Hid (∃ g, g ≤ f ∧ r = pSumL (by' T) g x a l)) (fun _ wr => T.size + 1 - rdm R wr)
    case atStart => exact ⟨_, _, HF0, HD0, HV0, ⟨f, Nat.le_refl _, HR0.out⟩⟩
    case round =>
      obtain ⟨x, a, hFr, hD, hV, hG⟩ := hrel
      obtain ⟨q, rfl⟩ := hV.out.form
      have c1 : wr.cell? ⟨R, 1, none⟩ = some (.int .i64 ((tok (by' T) a).kind : Int)) := by simp [World.cell?, hD.out.h]
      clear HF0 HD0 HV0 HR0
      have HRD := hid hD.out.rdm
      have hta := tok_at (by' T) a (by rw [by_len]; exact hD.out.le)
      rw [by_len] at hta
      have HTA := hid hta
      clear hta
      obtain ⟨ka, hka⟩ : ∃ ka, (tok (by' T) a).kind = ka := ⟨_, rfl⟩
      rw [hka] at c1
      have HKA := hid hka
      have hgx : ∃ g, g + 1 ≤ f ∧ r = pSumL (by' T) (g + 1) x a l := by
        obtain ⟨g, hg, h1⟩ := hG.out
        cases g with
        | zero => rw [pSumL] at h1; exact absurd h1 HRO.out
        | succ g => exact ⟨g, hg, h1⟩
      obtain ⟨g, hgf, hr2⟩ := hgx
      rw [pSumL, hka] at hr2
      have HG := hid hgf
      have HR1 := hid hr2
      have hnx : ∀ k, ka = k → k ≠ 1 → (tok (by' T) a).at' + 1 ≤ (tok (by' T) a).nx := fun k e1 e2 => HTA.out.2.2.2.1 (by rw [hka, e1]; exact e2)
      have HNX := hid hnx
      have hs := hFr.out.size
      have HPA := hid (fun (kd : Nat) (rb : Res Tr) (hrb : rb ≠ .out) hB => pairX w.heap.size 65 HFF.out R T a l kd x _ wr rb hD.out hV.out hlt hs hrb hB)
      have HCB := hid (fun (hne : pProd (by' T) g (tok (by' T) a).nx l ≠ .out) W (h : RdAt W R T (tok (by' T) a).nx l) => HP.out g (by omega) (tok (by' T) a).nx l W h hl hne)
      have HFX := hid ((p_fx (by' T) g).2.2.2.1 (tok (by' T) a).nx l (by rw [by_len]; exact HTA.out.2.1))
      clear hr2 hgf hnx hka hG hs
      by_cases h1 : ka = 16
      · have q1 : ((ka : Int) == 16) = true := by rw [h1]; rfl
        have hr2 := HR1.out
        rw [if_pos h1] at hr2
        have hne : pProd (by' T) g (tok (by' T) a).nx l ≠ .out := fun e => by rw [e] at hr2; exact HRO.out hr2
        have HC := hid (HPA.out 4 _ hne (HCB.out hne))
        have hnx := HNX.out _ h1 (by decide)
        have HNX1 := hid hnx
        have HR2 := hid hr2
        clear hr2 h1 HPA HCB HNX hnx HR1
        generalize (tok (by' T) a).nx = nx at *
        go_wp2_with fail
        refine HC.out.mono ?_
        intro e w3 he
        have hr2 := HR2.out
        cases ht : pProd (by' T) g nx l with
        | out => exact absurd ht hne
        | bad er at' =>
          rw [ht] at he hr2
          obtain ⟨h5, rfl, h6⟩ := he
          simp only [Res.bind] at hr2
          subst hr2
          exact ⟨rfl, hFr.out.trans h5, rfl, h6⟩
        | ok y a3 =>
          rw [ht] at he hr2
          obtain ⟨h5, v, rfl, hv, h6⟩ := he
          obtain ⟨q3, rfl⟩ := (show PT w.heap.size w3 _ v from hv).form
          simp only [Res.bind] at hr2
          have HF3 := hid (hFr.out.trans h5)
          have HD3 := hid h6
          have HV3 : Hid (PT w.heap.size w3 (.node 4 [] 0 0 [x, y]) (.pointer (some ⟨q3, 0, none⟩))) := hv
          have HR3 : Hid (∃ g, g ≤ f ∧ r = pSumL (by' T) g (.node 4 [] 0 0 [x, y]) a3 l) := ⟨g, by have := HG.out; omega, hr2⟩
          have hm : T.size + 1 - rdm R w3 < T.size + 1 - rdm R wr := by
            rw [h6.rdm, HRD.out]
            have k1 := tok_at (by' T) a3 (by rw [by_len]; exact h6.le)
            rw [by_len] at k1
            have k2 := HTA.out
            have k3 := HFX.out
            rw [ht] at k3
            have k4 := HNX1.out
            have k5 := k3.1
            omega
          have HM := hid hm
          clear hv h5 h6 hr2 ht hne HC hm
          go_wp2_with fail
          go_roundw
          case rel => exact ⟨_, _, HF3, HD3, HV3, HR3⟩
          case measure => exact HM.out
      · have q1 : ((ka : Int) == 16) = false := by simp; omega
        by_cases h2 : ka = 17
        · have q2 : ((ka : Int) == 17) = true := by rw [h2]; rfl
          have hr2 := HR1.out
          rw [if_neg h1, if_pos h2] at hr2
          have hne : pProd (by' T) g (tok (by' T) a).nx l ≠ .out := fun e => by rw [e] at hr2; exact HRO.out hr2
          have HC := hid (HPA.out 5 _ hne (HCB.out hne))
          have hnx := HNX.out _ h2 (by decide)
          have HNX1 := hid hnx
          have HR2 := hid hr2
          clear hr2 h1 h2 HPA HCB HNX hnx HR1
          generalize (tok (by' T) a).nx = nx at *
          go_wp2_with fail
          refine HC.out.mono ?_
          intro e w3 he
          have hr2 := HR2.out
          cases ht : pProd (by' T) g nx l with
          | out => exact absurd ht hne
          | bad er at' =>
            rw [ht] at he hr2
            obtain ⟨h5, rfl, h6⟩ := he
            simp only [Res.bind] at hr2
            subst hr2
            exact ⟨rfl, hFr.out.trans h5, rfl, h6⟩
          | ok y a3 =>
            rw [ht] at he hr2
            obtain ⟨h5, v, rfl, hv, h6⟩ := he
            obtain ⟨q3, rfl⟩ := (show PT w.heap.size w3 _ v from hv).form
            simp only [Res.bind] at hr2
            have HF3 := hid (hFr.out.trans h5)
            have HD3 := hid h6
            have HV3 : Hid (PT w.heap.size w3 (.node 5 [] 0 0 [x, y]) (.pointer (some ⟨q3, 0, none⟩))) := hv
            have HR3 : Hid (∃ g, g ≤ f ∧ r = pSumL (by' T) g (.node 5 [] 0 0 [x, y]) a3 l) := ⟨g, by have := HG.out; omega, hr2⟩
            have hm : T.size + 1 - rdm R w3 < T.size + 1 - rdm R wr := by
              rw [h6.rdm, HRD.out]
              have k1 := tok_at (by' T) a3 (by rw [by_len]; exact h6.le)
              rw [by_len] at k1
              have k2 := HTA.out
              have k3 := HFX.out
              rw [ht] at k3
              have k4 := HNX1.out
              have k5 := k3.1
              omega
            have HM := hid hm
            clear hv h5 h6 hr2 ht hne HC hm
            go_wp2_with fail
            go_roundw
            case rel => exact ⟨_, _, HF3, HD3, HV3, HR3⟩
            case measure => exact HM.out
        · have q2 : ((ka : Int) == 17) = false := by simp; omega
          have hr2 := HR1.out
          rw [if_neg h1, if_neg h2] at hr2
          have HR2 := hid hr2
          clear hr2 h1 h2 HPA HCB HNX HR1
          go_wp2_with fail
          go_ret
          have hr3 := HR2.out
          subst hr3
          exact ⟨hFr.out, _, rfl, hV.out, hD.out⟩

end Go.Proofs.YthpkcageimhgaaaDoor

namespace Go.Proofs.YthpkcageimhgaaaDoor
open Go.RowKit

set_option maxRecDepth 100000 in
set_option maxHeartbeats 2000000 in
theorem productX (R : Nat) (T : ByteArray) (f j l : Nat) (w : World) (hP : ∀ g, g ≤ f → XC R T g) (hR : RdAt w R T j l) (hl : l ≤ 64) (r : Res Tr) (hr : r = pProd (by' T) (f + 1) j l) (hro : r ≠ .out) :
    Calls Tryd.prog 65 #[.pointer (some ⟨R, 0, none⟩)] w (Rx w R T l l (VX w.heap.size) r) := by
  have hmf : ∀ (fn : Go.Fn) (first cap : Array Value) (w : World), (Instr.makeFunc fn first cap).run Tryd.prog w = .ok (.func fn first cap) w := fun _ _ _ _ => rfl
  have hF : ∀ args w, (callFunc 71 args).run Tryd.prog w = .ok (.enter 71 args) w := enters_of Tryd.func71 (by kernel_rfl) rfl
  have hlt := hR.lt
  have HP := hid hP
  rw [pProd] at hr
  have hne0 : pPart (by' T) f j l ≠ .out := fun e => by rw [e] at hr; exact hro hr
  have HC0 := hid (hP f (Nat.le_refl _) j l w hR hl hne0)
  have HR := hid hr
  have HRO := hid hro
  have HFF := hid hF
  clear hR hr hro hP hF
  go_enter Tryd.func65, Tryd.ntmps65
  go_wp2_with fail
  refine HC0.out.mono ?_
  intro e w0 he
  have hr2 := HR.out
  cases ht : pPart (by' T) f j l with
  | out => exact absurd ht hne0
  | bad er at' =>
    rw [ht] at he hr2
    obtain ⟨h5, rfl, h6⟩ := he
    simp only [Res.bind] at hr2
    subst hr2
    exact ⟨rfl, h5, rfl, h6⟩
  | ok x0 a0 =>
    rw [ht] at he hr2
    obtain ⟨h5, v, rfl, hv, h6⟩ := he
    obtain ⟨q0, rfl⟩ := hv.form
    simp only [Res.bind] at hr2
    have HF0 := hid h5
    have HD0 := hid h6
    have HV0 : Hid (PT w.heap.size w0 x0 (.pointer (some ⟨q0, 0, none⟩))) := hv
    have HR0 := hid hr2
    clear hv h5 h6 hr2 ht hne0 HC0 HR
    go_wp2_with fail
    go_loopw [3] (fun v wr => ∃ (x : Tr) (a : Nat), Hid (Fr R w wr) ∧ Hid (RdAt wr R T a l) ∧ Hid (PT w.heap.size wr x v) ∧ Hid (∃ g, g ≤ f ∧ r = pProdL (by' T) g x a l)) (fun _ wr => T.size + 1 - rdm R wr)
    case atStart => exact ⟨_, _, HF0, HD0, HV0, ⟨f, Nat.le_refl _, HR0.out⟩⟩
    case round =>
      obtain ⟨x, a, hFr, hD, hV, hG⟩ := hrel
      obtain ⟨q, rfl⟩ := hV.out.form
      have c1 : wr.cell? ⟨R, 1, none⟩ = some (.int .i64 ((tok (by' T) a).kind : Int)) := by simp [World.cell?, hD.out.h]
      clear HF0 HD0 HV0 HR0
      have HRD := hid hD.out.rdm
      have hta := tok_at (by' T) a (by rw [by_len]; exact hD.out.le)
      rw [by_len] at hta
      have HTA := hid hta
      clear hta
      obtain ⟨ka, hka⟩ : ∃ ka, (tok (by' T) a).kind = ka := ⟨_, rfl⟩
      rw [hka] at c1
      have HKA := hid hka
      have hgx : ∃ g, g + 1 ≤ f ∧ r = pProdL (by' T) (g + 1) x a l := by
        obtain ⟨g, hg, h1⟩ := hG.out
        cases g with
        | zero => rw [pProdL] at h1; exact absurd h1 HRO.out
        | succ g => exact ⟨g, hg, h1⟩
      obtain ⟨g, hgf, hr2⟩ := hgx
      rw [pProdL, hka] at hr2
      have HG := hid hgf
      have HR1 := hid hr2
      have hnx : ∀ k, ka = k → k ≠ 1 → (tok (by' T) a).at' + 1 ≤ (tok (by' T) a).nx := fun k e1 e2 => HTA.out.2.2.2.1 (by rw [hka, e1]; exact e2)
      have HNX := hid hnx
      have hs := hFr.out.size
      have HPA := hid (fun (kd : Nat) (rb : Res Tr) (hrb : rb ≠ .out) hB => pairX w.heap.size 71 HFF.out R T a l kd x _ wr rb hD.out hV.out hlt hs hrb hB)
      have HCB := hid (fun (hne : pPart (by' T) g (tok (by' T) a).nx l ≠ .out) W (h : RdAt W R T (tok (by' T) a).nx l) => HP.out g (by omega) (tok (by' T) a).nx l W h hl hne)
      have HFX := hid ((p_fx (by' T) g).2.2.2.2.2.1 (tok (by' T) a).nx l (by rw [by_len]; exact HTA.out.2.1))
      clear hr2 hgf hnx hka hG hs
      by_cases h1 : ka = 18
      · have q1 : ((ka : Int) == 18) = true := by rw [h1]; rfl
        have hr2 := HR1.out
        rw [if_pos h1] at hr2
        have hne : pPart (by' T) g (tok (by' T) a).nx l ≠ .out := fun e => by rw [e] at hr2; exact HRO.out hr2
        have HC := hid (HPA.out 6 _ hne (HCB.out hne))
        have hnx := HNX.out _ h1 (by decide)
        have HNX1 := hid hnx
        have HR2 := hid hr2
        clear hr2 h1 HPA HCB HNX hnx HR1
        generalize (tok (by' T) a).nx = nx at *
        go_wp2_with fail
        refine HC.out.mono ?_
        intro e w3 he
        have hr2 := HR2.out
        cases ht : pPart (by' T) g nx l with
        | out => exact absurd ht hne
        | bad er at' =>
          rw [ht] at he hr2
          obtain ⟨h5, rfl, h6⟩ := he
          simp only [Res.bind] at hr2
          subst hr2
          exact ⟨rfl, hFr.out.trans h5, rfl, h6⟩
        | ok y a3 =>
          rw [ht] at he hr2
          obtain ⟨h5, v, rfl, hv, h6⟩ := he
          obtain ⟨q3, rfl⟩ := (show PT w.heap.size w3 _ v from hv).form
          simp only [Res.bind] at hr2
          have HF3 := hid (hFr.out.trans h5)
          have HD3 := hid h6
          have HV3 : Hid (PT w.heap.size w3 (.node 6 [] 0 0 [x, y]) (.pointer (some ⟨q3, 0, none⟩))) := hv
          have HR3 : Hid (∃ g, g ≤ f ∧ r = pProdL (by' T) g (.node 6 [] 0 0 [x, y]) a3 l) := ⟨g, by have := HG.out; omega, hr2⟩
          have hm : T.size + 1 - rdm R w3 < T.size + 1 - rdm R wr := by
            rw [h6.rdm, HRD.out]
            have k1 := tok_at (by' T) a3 (by rw [by_len]; exact h6.le)
            rw [by_len] at k1
            have k2 := HTA.out
            have k3 := HFX.out
            rw [ht] at k3
            have k4 := HNX1.out
            have k5 := k3.1
            omega
          have HM := hid hm
          clear hv h5 h6 hr2 ht hne HC hm
          go_wp2_with fail
          go_roundw
          case rel => exact ⟨_, _, HF3, HD3, HV3, HR3⟩
          case measure => exact HM.out
      · have q1 : ((ka : Int) == 18) = false := by simp; omega
        by_cases h2 : ka = 19
        · have q2 : ((ka : Int) == 19) = true := by rw [h2]; rfl
          have hr2 := HR1.out
          rw [if_neg h1, if_pos h2] at hr2
          have hne : pPart (by' T) g (tok (by' T) a).nx l ≠ .out := fun e => by rw [e] at hr2; exact HRO.out hr2
          have HC := hid (HPA.out 7 _ hne (HCB.out hne))
          have hnx := HNX.out _ h2 (by decide)
          have HNX1 := hid hnx
          have HR2 := hid hr2
          clear hr2 h1 h2 HPA HCB HNX hnx HR1
          generalize (tok (by' T) a).nx = nx at *
          go_wp2_with fail
          refine HC.out.mono ?_
          intro e w3 he
          have hr2 := HR2.out
          cases ht : pPart (by' T) g nx l with
          | out => exact absurd ht hne
          | bad er at' =>
            rw [ht] at he hr2
            obtain ⟨h5, rfl, h6⟩ := he
            simp only [Res.bind] at hr2
            subst hr2
            exact ⟨rfl, hFr.out.trans h5, rfl, h6⟩
          | ok y a3 =>
            rw [ht] at he hr2
            obtain ⟨h5, v, rfl, hv, h6⟩ := he
            obtain ⟨q3, rfl⟩ := (show PT w.heap.size w3 _ v from hv).form
            simp only [Res.bind] at hr2
            have HF3 := hid (hFr.out.trans h5)
            have HD3 := hid h6
            have HV3 : Hid (PT w.heap.size w3 (.node 7 [] 0 0 [x, y]) (.pointer (some ⟨q3, 0, none⟩))) := hv
            have HR3 : Hid (∃ g, g ≤ f ∧ r = pProdL (by' T) g (.node 7 [] 0 0 [x, y]) a3 l) := ⟨g, by have := HG.out; omega, hr2⟩
            have hm : T.size + 1 - rdm R w3 < T.size + 1 - rdm R wr := by
              rw [h6.rdm, HRD.out]
              have k1 := tok_at (by' T) a3 (by rw [by_len]; exact h6.le)
              rw [by_len] at k1
              have k2 := HTA.out
              have k3 := HFX.out
              rw [ht] at k3
              have k4 := HNX1.out
              have k5 := k3.1
              omega
            have HM := hid hm
            clear hv h5 h6 hr2 ht hne HC hm
            go_wp2_with fail
            go_roundw
            case rel => exact ⟨_, _, HF3, HD3, HV3, HR3⟩
            case measure => exact HM.out
        · have q2 : ((ka : Int) == 19) = false := by simp; omega
          have hr2 := HR1.out
          rw [if_neg h1, if_neg h2] at hr2
          have HR2 := hid hr2
          clear hr2 h1 h2 HPA HCB HNX HR1
          go_wp2_with fail
          go_ret
          have hr3 := HR2.out
          subst hr3
          exact ⟨hFr.out, _, rfl, hV.out, hD.out⟩

end Go.Proofs.YthpkcageimhgaaaDoor
