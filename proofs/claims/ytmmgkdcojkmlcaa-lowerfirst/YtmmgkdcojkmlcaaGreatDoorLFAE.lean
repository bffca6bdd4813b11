/- Package source: product. Package source: a name, or a call. Package source: a part, an expression; all that is read. Package source: an expression, and all that is read by one another. Package source: names in brackets, read. Package source: a function, read. -/
import Derived.Test.YtmmgkdcojkmlcaaGreatDoorLFAD
import Derived.Test.YtmmgkdcojkmlcaaGreatDoorLFAC
namespace Go.Proofs.YtmmgkdcojkmlcaaGreatDoor
open Go.RowKit

set_option maxRecDepth 100000 in
set_option maxHeartbeats 2000000 in
theorem productX (R : Nat) (T : ByteArray) (f j l : Nat) (w : World) (hP : ∀ g, g ≤ f → XC R T g) (hR : RdAt w R T j l) (hl : l ≤ 64) (r : Res Tr) (hr : r = pProd (by' T) (f + 1) j l) (hro : r ≠ .out) :
    Calls Tryz.prog 111 #[.pointer (some ⟨R, 0, none⟩)] w (Rx w R T l l (VX w.heap.size) r) := by
  have hmf : ∀ (fn : Go.Fn) (first cap : Array Value) (w : World), (Instr.makeFunc fn first cap).run Tryz.prog w = .ok (.func fn first cap) w := fun _ _ _ _ => rfl
  have hF : ∀ args w, (callFunc 115 args).run Tryz.prog w = .ok (.enter 115 args) w := enters_of Tryz.func115 (by kernel_rfl) rfl
  have hlt := hR.lt
  have HP := hid hP
  rw [pProd] at hr
  have hne0 : pPart (by' T) f j l ≠ .out := fun e => by rw [e] at hr; exact hro hr
  have HC0 := hid (hP f (Nat.le_refl _) j l w hR hl hne0)
  have HR := hid hr
  have HRO := hid hro
  have HFF := hid hF
  clear hR hr hro hP hF
  go_enter Tryz.func111, Tryz.ntmps111
  go_wp2_with fail
  refine HC0.out.mono ?_
  intro e w0 he
  have hr2 := HR.out
  cases ht : pPart (by' T) f j l with
  | out => exact absurd ht hne0
  | bad er at' =>
    rw [ht] at he hr2
    obtain ⟨h5, rfl, h6⟩ := he
    simp only [Res.bind] at hr2
    subst hr2
    exact ⟨rfl, h5, rfl, h6⟩
  | ok x0 a0 =>
    rw [ht] at he hr2
    obtain ⟨h5, v, rfl, hv, h6⟩ := he
    obtain ⟨q0, rfl⟩ := hv.form
    simp only [Res.bind] at hr2
    have HF0 := hid h5
    have HD0 := hid h6
    have HV0 : Hid (PT w.heap.size w0 x0 (.pointer (some ⟨q0, 0, none⟩))) := hv
    have HR0 := hid hr2
    clear hv h5 h6 hr2 ht hne0 HC0 HR
    go_wp2_with fail
    go_loopw [3] (fun v wr => ∃ (x : Tr) (a : Nat), Hid (Fr R w wr) ∧ Hid (RdAt wr R T a l) ∧ Hid (PT w.heap.size wr x v) ∧ Hid (∃ g, g ≤ f ∧ r = pProdL (by' T) g x a l)) (fun _ wr => T.size + 1 - rdm R wr)
    case atStart => exact ⟨_, _, HF0, HD0, HV0, ⟨f, Nat.le_refl _, HR0.out⟩⟩
    case round =>
      obtain ⟨x, a, hFr, hD, hV, hG⟩ := hrel
      obtain ⟨q, rfl⟩ := hV.out.form
      have c1 : wr.cell? ⟨R, 1, none⟩ = some (.int .i64 ((tok (by' T) a).kind : Int)) := by simp [World.cell?, hD.out.h]
      clear HF0 HD0 HV0 HR0
      have HRD := hid hD.out.rdm
      have hta := tok_at (by' T) a (by rw [by_len]; exact hD.out.le)
      rw [by_len] at hta
      have HTA := hid hta
      clear hta
      obtain ⟨ka, hka⟩ : ∃ ka, (tok (by' T) a).kind = ka := ⟨_, rfl⟩
      rw [hka] at c1
      have HKA := hid hka
      have hgx : ∃ g, g + 1 ≤ f ∧ r = pProdL (by' T) (g + 1) x a l := by
        obtain ⟨g, hg, h1⟩ := hG.out
        cases g with
        | zero => rw [pProdL] at h1; exact absurd h1 HRO.out
        | succ g => exact ⟨g, hg, h1⟩
      obtain ⟨g, hgf, hr2⟩ := hgx
      rw [pProdL, hka] at hr2
      have HG := hid hgf
      have HR1 := hid hr2
      have hnx : ∀ k, ka = k → k ≠ 1 → (tok (by' T) a).at' + 1 ≤ (tok (by' T) a).nx := fun k e1 e2 => HTA.out.2.2.2.1 (by rw [hka, e1]; exact e2)
      have HNX := hid hnx
      have hs := hFr.out.size
      have HPA := hid (fun (kd : Nat) (rb : Res Tr) (hrb : rb ≠ .out) hB => pairX w.heap.size 115 HFF.out R T a l kd x _ wr rb hD.out hV.out hlt hs hrb hB)
      have HCB := hid (fun (hne : pPart (by' T) g (tok (by' T) a).nx l ≠ .out) W (h : RdAt W R T (tok (by' T) a).nx l) => HP.out g (by omega) (tok (by' T) a).nx l W h hl hne)
      have HFX := hid ((p_fx (by' T) g).2.2.2.2.2.1 (tok (by' T) a).nx l (by rw [by_len]; exact HTA.out.2.1))
      clear hr2 hgf hnx hka hG hs
      by_cases h1 : ka = 18
      · have q1 : ((ka : Int) == 18) = true := by rw [h1]; rfl
        have hr2 := HR1.out
        rw [if_pos h1] at hr2
        have hne : pPart (by' T) g (tok (by' T) a).nx l ≠ .out := fun e => by rw [e] at hr2; exact HRO.out hr2
        have HC := hid (HPA.out 6 _ hne (HCB.out hne))
        have hnx := HNX.out _ h1 (by decide)
        have HNX1 := hid hnx
        have HR2 := hid hr2
        clear hr2 h1 HPA HCB HNX hnx HR1
        generalize (tok (by' T) a).nx = nx at *
        go_wp2_with fail
        refine HC.out.mono ?_
        intro e w3 he
        have hr2 := HR2.out
        cases ht : pPart (by' T) g nx l with
        | out => exact absurd ht hne
        | bad er at' =>
          rw [ht] at he hr2
          obtain ⟨h5, rfl, h6⟩ := he
          simp only [Res.bind] at hr2
          subst hr2
          exact ⟨rfl, hFr.out.trans h5, rfl, h6⟩
        | ok y a3 =>
          rw [ht] at he hr2
          obtain ⟨h5, v, rfl, hv, h6⟩ := he
          obtain ⟨q3, rfl⟩ := (show PT w.heap.size w3 _ v from hv).form
          simp only [Res.bind] at hr2
          have HF3 := hid (hFr.out.trans h5)
          have HD3 := hid h6
          have HV3 : Hid (PT w.heap.size w3 (.node 6 [] 0 0 [x, y]) (.pointer (some ⟨q3, 0, none⟩))) := hv
          have HR3 : Hid (∃ g, g ≤ f ∧ r = pProdL (by' T) g (.node 6 [] 0 0 [x, y]) a3 l) := ⟨g, by have := HG.out; omega, hr2⟩
          have hm : T.size + 1 - rdm R w3 < T.size + 1 - rdm R wr := by
            rw [h6.rdm, HRD.out]
            have k1 := tok_at (by' T) a3 (by rw [by_len]; exact h6.le)
            rw [by_len] at k1
            have k2 := HTA.out
            have k3 := HFX.out
            rw [ht] at k3
            have k4 := HNX1.out
            have k5 := k3.1
            omega
          have HM := hid hm
          clear hv h5 h6 hr2 ht hne HC hm
          go_wp2_with fail
          go_roundw
          case rel => exact ⟨_, _, HF3, HD3, HV3, HR3⟩
          case measure => exact HM.out
      · have q1 : ((ka : Int) == 18) = false := by simp; omega
        by_cases h2 : ka = 19
        · have q2 : ((ka : Int) == 19) = true := by rw [h2]; rfl
          have hr2 := HR1.out
          rw [if_neg h1, if_pos h2] at hr2
          have hne : pPart (by' T) g (tok (by' T) a).nx l ≠ .out := fun e => by rw [e] at hr2; exact HRO.out hr2
          have HC := hid (HPA.out 7 _ hne (HCB.out hne))
          have hnx := HNX.out _ h2 (by decide)
          have HNX1 := hid hnx
          have HR2 := hid hr2
          clear hr2 h1 h2 HPA HCB HNX hnx HR1
          generalize (tok (by' T) a).nx = nx at *
          go_wp2_with fail
          refine HC.out.mono ?_
          intro e w3 he
          have hr2 := HR2.out
          cases ht : pPart (by' T) g nx l with
          | out => exact absurd ht hne
          | bad er at' =>
            rw [ht] at he hr2
            obtain ⟨h5, rfl, h6⟩ := he
            simp only [Res.bind] at hr2
            subst hr2
            exact ⟨rfl, hFr.out.trans h5, rfl, h6⟩
          | ok y a3 =>
            rw [ht] at he hr2
            obtain ⟨h5, v, rfl, hv, h6⟩ := he
            obtain ⟨q3, rfl⟩ := (show PT w.heap.size w3 _ v from hv).form
            simp only [Res.bind] at hr2
            have HF3 := hid (hFr.out.trans h5)
            have HD3 := hid h6
            have HV3 : Hid (PT w.heap.size w3 (.node 7 [] 0 0 [x, y]) (.pointer (some ⟨q3, 0, none⟩))) := hv
            have HR3 : Hid (∃ g, g ≤ f ∧ r = pProdL (by' T) g (.node 7 [] 0 0 [x, y]) a3 l) := ⟨g, by have := HG.out; omega, hr2⟩
            have hm : T.size + 1 - rdm R w3 < T.size + 1 - rdm R wr := by
              rw [h6.rdm, HRD.out]
              have k1 := tok_at (by' T) a3 (by rw [by_len]; exact h6.le)
              rw [by_len] at k1
              have k2 := HTA.out
              have k3 := HFX.out
              rw [ht] at k3
              have k4 := HNX1.out
              have k5 := k3.1
              omega
            have HM := hid hm
            clear hv h5 h6 hr2 ht hne HC hm
            go_wp2_with fail
            go_roundw
            case rel => exact ⟨_, _, HF3, HD3, HV3, HR3⟩
            case measure => exact HM.out
        · have q2 : ((ka : Int) == 19) = false := by simp; omega
          have hr2 := HR1.out
          rw [if_neg h1, if_neg h2] at hr2
          have HR2 := hid hr2
          clear hr2 h1 h2 HPA HCB HNX HR1
          go_wp2_with fail
          go_ret
          have hr3 := HR2.out
          subst hr3
          exact ⟨hFr.out, _, rfl, hV.out, hD.out⟩

end Go.Proofs.YtmmgkdcojkmlcaaGreatDoor

namespace Go.Proofs.YtmmgkdcojkmlcaaGreatDoor
open Go.RowKit

set_option maxRecDepth 100000 in
set_option maxHeartbeats 2000000 in
theorem namedX (R : Nat) (T : ByteArray) (f j l : Nat) (w : World) (hL : ∀ a W (r : Res (List Tr)), RdAt W R T a l → r = pList (by' T) f a l → r ≠ .out → Calls Tryz.prog 121 #[.pointer (some ⟨R, 0, none⟩), .func (.func 81) #[.pointer (some ⟨R, 0, none⟩)] #[]] W (Rx W R T l l (VL W.heap.size) r)) (hR : RdAt w R T j l) (r : Res Tr)
    (hr : r = (pName (by' T) j).bind fun nm a1 => if (tok (by' T) a1).kind = 10 then (pList (by' T) f a1 l).bind fun xs a5 => .ok (.node 2 nm.1 nm.2 0 xs) a5 else .ok (.node 1 nm.1 nm.2 0 []) a1) (hro : r ≠ .out) :
    Calls Tryz.prog 117 #[.pointer (some ⟨R, 0, none⟩)] w (Rx w R T l l (VX w.heap.size) r) := by
  have hmf : ∀ (fn : Go.Fn) (first cap : Array Value) (w : World), (Instr.makeFunc fn first cap).run Tryz.prog w = .ok (.func fn first cap) w := fun _ _ _ _ => rfl
  have HT := hid (nameX R T j l w hR)
  have hlt := hR.lt
  have HL := hid hL
  have HR := hid hr
  have HRO := hid hro
  clear hR hr hro hL
  go_enter Tryz.func117, Tryz.ntmps117
  go_wp2_with fail
  refine HT.out.mono ?_
  intro e w1 he
  have hr2 := HR.out
  cases ht : pName (by' T) j with
  | out => exact absurd ht pName_out
  | bad er at' =>
    rw [ht] at he hr2
    obtain ⟨h5, rfl, h6⟩ := he
    simp only [Res.bind] at hr2
    subst hr2
    exact ⟨rfl, h5, rfl, h6⟩
  | ok nm a1 =>
    rw [ht] at he hr2
    obtain ⟨h5, v, rfl, rfl, h6⟩ := he
    simp only [Res.bind] at hr2
    have hbN : Below w1.heap.size w1 (w1.alloc (.cells #[.string (bs nm.1), .int .i64 (nm.2 : Int)] 68)) := (Below.refl _ _).alloc (Nat.le_refl _) _
    have HF1 := hid (h5.more hbN hlt)
    have HD1 := hid (h6.below hbN)
    have HR1 := hid hr2
    have hn1 : (w1.alloc (.cells #[.string (bs nm.1), .int .i64 (nm.2 : Int)] 68)).heap[w1.heap.size]? = some (.cells #[.string (bs nm.1), .int .i64 (nm.2 : Int)] 68 (0, 0)) := heap_alloc_new w1 _
    obtain ⟨N, hN⟩ : ∃ N, N = w1.heap.size := ⟨_, rfl⟩
    have hNR : N ≠ R := by have := h6.lt; omega
    obtain ⟨W1, hW1⟩ : ∃ W1, W1 = w1.alloc (.cells #[.string (bs nm.1), .int .i64 (nm.2 : Int)] 68) := ⟨_, rfl⟩
    rw [← hW1] at HF1 HD1 hn1
    rw [← hN] at hn1
    obtain ⟨s, hs⟩ : ∃ s, s = bs nm.1 := ⟨_, rfl⟩
    have HS := hid hs
    rw [← hs] at hW1 hn1
    have HN1 := hid hn1
    have HNR := hid hNR
    clear h5 h6 hr2 ht HT hbN hNR HR
    have c1 : W1.cell? ⟨R, 1, none⟩ = some (.int .i64 ((tok (by' T) a1).kind : Int)) := by simp [World.cell?, HD1.out.h]
    have n0 : W1.cell? ⟨N, 0, none⟩ = some (.string s) := by simp [World.cell?, hn1]
    have n1 : W1.cell? ⟨N, 1, none⟩ = some (.int .i64 (nm.2 : Int)) := by simp [World.cell?, hn1]
    obtain ⟨ka, hka⟩ : ∃ ka, (tok (by' T) a1).kind = ka := ⟨_, rfl⟩
    rw [hka] at c1
    have HKA := hid hka
    unfold namv
    rw [← hs]
    clear hs hka hn1
    replace hW1 := hW1.symm
    replace hN := hN.symm
    have hr2 := HR1.out
    by_cases h10 : ka = 10
    · have q1 : ((ka : Int) == 10) = true := by rw [h10]; rfl
      rw [if_pos (HKA.out.trans h10)] at hr2
      have hne : pList (by' T) f a1 l ≠ .out := fun e => by rw [e] at hr2; exact HRO.out hr2
      have HC := hid (HL.out a1 W1.drew _ HD1.out.drew rfl hne)
      have HR2 := hid hr2
      have hc0 : W1.drew.cell? ⟨N, 0, none⟩ = some (.string s) ∧ W1.drew.cell? ⟨N, 1, none⟩ = some (.int .i64 (nm.2 : Int)) := ⟨n0, n1⟩
      clear hr2 h10 HR1
      go_wp2_with fail
      clear hW1 hN n0 n1 c1
      refine wp_region_held_drew (S := (fun W => W.cell? ⟨N, 0, none⟩ = some (.string s) ∧ W.cell? ⟨N, 1, none⟩ = some (.int .i64 (nm.2 : Int)))) (by kernel_rfl) hc0 (fun hHeld => ?_)
      refine wpAnyH_takeS (i := 0) (v := .agg #[.string s, .int .i64 (nm.2 : Int)]) rfl (by kernel_rfl) (by kernel_rfl) (by kernel_rfl) (fun _ _ _ h => h) (by rfl) (fun W hC => by (obtain ⟨k0, k1⟩ := hC); go_simp) hHeld ?_
      simp only [Act.put, List.setIfInBounds_toArray, List.set_cons_zero, List.set_cons_succ]
      refine wpAnyH_takeS (i := 1) (v := .pointer (some ⟨R, 0, none⟩)) rfl (by kernel_rfl) (by kernel_rfl) (by kernel_rfl) (fun _ _ _ h => h) (by rfl) (fun W hC => by go_simp) hHeld ?_
      simp only [Act.put, List.setIfInBounds_toArray, List.set_cons_zero, List.set_cons_succ]
      refine wpAnyH_takeS (i := 2) (v := .pointer (some ⟨R, 0, none⟩)) rfl (by kernel_rfl) (by kernel_rfl) (by kernel_rfl) (fun _ _ _ h => h) (by rfl) (fun W hC => by go_simp) hHeld ?_
      simp only [Act.put, List.setIfInBounds_toArray, List.set_cons_zero, List.set_cons_succ]
      refine wpAnyH_ready (rs := [3]) (by kernel_rfl) (by simp) ?_
      refine AllReadyH.consS rfl (fun K hK => ?_) AllReadyH.nil
      go_simp
      refine hK.out _ _ hc0 (fun hHeld => ?_)
      clear hK K hHeld
      refine wpAnyH_ready (rs := [4]) (by kernel_rfl) (by simp) ?_
      refine AllReadyH.consS rfl (fun K hK => ?_) AllReadyH.nil
      go_simp
      refine HC.out.mono ?_
      intro e w5 he
      have hr2 := HR2.out
      cases ht : pList (by' T) f a1 l with
      | out => exact absurd ht hne
      | bad er at' =>
        rw [ht] at he hr2
        obtain ⟨h5, rfl, h6⟩ := he
        (try simp only at hr2)
        subst hr2
        exact ⟨rfl, HF1.out.drew.trans h5, rfl, h6⟩
      | ok xs a5 =>
        rw [ht] at he hr2
        obtain ⟨h5, v, rfl, ⟨av, cv, rfl, hps⟩, h6⟩ := he
        (try simp only at hr2)
        have HF5 := hid (HF1.out.drew.trans h5)
        have HD5 := hid h6
        have HR5 := hid hr2
        have HPS := hid hps
        have hn5 : w5.heap[N]? = some (.cells #[.string s, .int .i64 (nm.2 : Int)] 68 (0, 0)) := (h5.2 N (Array.getElem?_eq_some_iff.1 HN1.out).1 HNR.out).trans HN1.out
        have hc5 : w5.cell? ⟨N, 0, none⟩ = some (.string s) ∧ w5.cell? ⟨N, 1, none⟩ = some (.int .i64 (nm.2 : Int)) := ⟨by simp [World.cell?, hn5], by simp [World.cell?, hn5]⟩
        have hlN : N < w5.heap.size := (Array.getElem?_eq_some_iff.1 hn5).1
        have HKB : Hid (∀ W, Below w5.heap.size w5 W → W.cell? ⟨N, 0, none⟩ = some (.string s) ∧ W.cell? ⟨N, 1, none⟩ = some (.int .i64 (nm.2 : Int))) := fun W h => ⟨(h.cell (p := ⟨N, 0, none⟩) hlN).trans hc5.1, (h.cell (p := ⟨N, 1, none⟩) hlN).trans hc5.2⟩
        clear hps hr2 ht h5 h6
        obtain ⟨n, hn⟩ : ∃ n, n = xs.length := ⟨_, rfl⟩
        have HN := hid hn
        rw [← hn]
        clear hn
        refine hK.out _ _ hc5 (fun hHeld => ?_)
        clear hK K hHeld
        refine wpAnyH_ready (rs := [5]) (by kernel_rfl) (by simp) ?_
        refine AllReadyH.consS rfl (fun K hK => ?_) AllReadyH.nil
        go_simp
        refine hK.out _ _ hc5 (fun hHeld => ?_)
        clear hK K hHeld
        refine wpAnyH_ready (rs := [6]) (by kernel_rfl) (by simp) ?_
        refine AllReadyH.consS rfl (fun K hK => ?_) AllReadyH.nil
        go_simp
        have hb5 : Below w5.heap.size w5 (w5.alloc (.cells #[.int .i64 2, .string s, .int .i64 (nm.2 : Int), .int .i64 0, .slice av n cv] 190)) := (Below.refl _ _).alloc (Nat.le_refl _) _
        refine hK.out _ _ (HKB.out _ hb5) (fun hHeld => ?_)
        clear hK K hHeld
        refine wpAnyH_ready (rs := [7]) (by kernel_rfl) (by simp) ?_
        refine AllReadyH.consS rfl (fun K hK => ?_) AllReadyH.nil
        go_simp
        refine hK.out _ _ (HKB.out _ hb5) (fun hHeld => ?_)
        clear hK K hHeld
        refine wpAnyH_done (by kernel_rfl) ?_ _
        have HB5 := hid hb5
        clear hb5 hc5
        go_wp2_with fail
        go_ret
        have hr3 := HR5.out
        subst hr3
        refine ⟨HF5.out.more HB5.out hlt, _, rfl, ⟨w5.heap.size, av, cv, rfl, ?_, ?_, ?_⟩, HD5.out.below HB5.out⟩
        · have := HF5.out.size
          show w.heap.size ≤ w5.heap.size
          omega
        · rw [← HS.out, ← HN.out]
          exact heap_alloc_new w5 _
        · have hsz := HF1.out.size
          exact PTBs.keep (fun b hb hl2 => ⟨(show w.heap.size ≤ b from Nat.le_trans hsz hb), HB5.out.block b hl2⟩) _ _ _ HPS.out
    · have q1 : ((ka : Int) == 10) = false := by simp; omega
      rw [if_neg (fun e => h10 (HKA.out.symm.trans e))] at hr2
      have HR2 := hid hr2
      clear hr2 h10 HR1
      go_wp2_with fail
      go_ret
      have hr3 := HR2.out
      subst hr3
      have hb5 : Below W1.heap.size W1 (W1.alloc (.cells #[.int .i64 1, .string s, .int .i64 (nm.2 : Int), .int .i64 0, .slice none 0 0] 190)) := (Below.refl _ _).alloc (Nat.le_refl _) _
      refine ⟨HF1.out.more hb5 hlt, _, rfl, ⟨W1.heap.size, none, 0, rfl, ?_, ?_, trivial⟩, HD1.out.below hb5⟩
      · have := HF1.out.size
        show w.heap.size ≤ W1.heap.size
        omega
      · rw [← HS.out]
        exact heap_alloc_new W1 _

end Go.Proofs.YtmmgkdcojkmlcaaGreatDoor

namespace Go.Proofs.YtmmgkdcojkmlcaaGreatDoor
open Go.RowKit

set_option maxRecDepth 100000 in
set_option maxHeartbeats 1000000 in
theorem partX (R : Nat) (T : ByteArray) (f j l : Nat) (w : World) (hE : EC R T f) (hX : XC R T f) (hL : ∀ a W (r : Res (List Tr)), RdAt W R T a l → r = pList (by' T) f a l → r ≠ .out → Calls Tryz.prog 121 #[.pointer (some ⟨R, 0, none⟩), .func (.func 81) #[.pointer (some ⟨R, 0, none⟩)] #[]] W (Rx W R T l l (VL W.heap.size) r)) (hR : RdAt w R T j l) (hl : l ≤ 64) (r : Res Tr) (hr : r = pPart (by' T) (f + 1) j l) (hro : r ≠ .out) :
    Calls Tryz.prog 115 #[.pointer (some ⟨R, 0, none⟩)] w (Rx w R T l l (VX w.heap.size) r) := by
  have c1 : w.cell? ⟨R, 1, none⟩ = some (.int .i64 ((tok (by' T) j).kind : Int)) := by simp [World.cell?, hR.h]
  rw [pPart] at hr
  have HN := hid (fun h1 => namedX R T f j l w hL hR r h1 hro)
  have HB := hid (fun h1 => inBracketsX R T f j l w hE hR hl r h1 hro)
  have HM := hid (fun h1 => minusX R T f j l w hX hR hl r h1 hro)
  have HU := hid (numX R T j l w hR)
  obtain ⟨ka, hka⟩ : ∃ ka, (tok (by' T) j).kind = ka := ⟨_, rfl⟩
  rw [hka] at c1 hr
  have HR := hid hr
  clear hR hr hro hE hX hL hka
  by_cases h1 : ka = 2
  · have q1 : ((ka : Int) == 2) = true := by rw [h1]; rfl
    have hr2 := HR.out
    rw [if_pos h1] at hr2
    have HC := hid (HN.out hr2)
    clear hr2 h1 HN HB HM HU
    go_enter Tryz.func115, Tryz.ntmps115
    go_wp2_with fail
    refine HC.out.mono ?_
    intro e w1 he
    have HH := hid he
    cases e with
    | returned v => clear he; go_wp2_with fail; go_ret; exact HH.out
    | panicked c => exact ⟨rfl, he⟩
    | outgrown => cases r with
      | ok x a => obtain ⟨_, _, h, _⟩ := he; cases h
      | bad x a => obtain ⟨_, h, _⟩ := he; cases h
      | out => exact he.2.elim
  · have q1 : ((ka : Int) == 2) = false := by simp; omega
    by_cases h2 : ka = 10
    · have q2 : ((ka : Int) == 10) = true := by rw [h2]; rfl
      have hr2 := HR.out
      rw [if_neg h1, if_pos h2] at hr2
      have HC := hid (HB.out hr2)
      clear hr2 h1 h2 HN HB HM HU
      go_enter Tryz.func115, Tryz.ntmps115
      go_wp2_with fail
      refine HC.out.mono ?_
      intro e w1 he
      have HH := hid he
      cases e with
      | returned v => clear he; go_wp2_with fail; go_ret; exact HH.out
      | panicked c => exact ⟨rfl, he⟩
      | outgrown => cases r with
        | ok x a => obtain ⟨_, _, h, _⟩ := he; cases h
        | bad x a => obtain ⟨_, h, _⟩ := he; cases h
        | out => exact he.2.elim
    · have q2 : ((ka : Int) == 10) = false := by simp; omega
      by_cases h3 : ka = 17
      · have q3 : ((ka : Int) == 17) = true := by rw [h3]; rfl
        have hr2 := HR.out
        rw [if_neg h1, if_neg h2, if_pos h3] at hr2
        have HC := hid (HM.out hr2)
        clear hr2 h1 h2 h3 HN HB HM HU
        go_enter Tryz.func115, Tryz.ntmps115
        go_wp2_with fail
        refine HC.out.mono ?_
        intro e w1 he
        have HH := hid he
        cases e with
        | returned v => clear he; go_wp2_with fail; go_ret; exact HH.out
        | panicked c => exact ⟨rfl, he⟩
        | outgrown => cases r with
          | ok x a => obtain ⟨_, _, h, _⟩ := he; cases h
          | bad x a => obtain ⟨_, h, _⟩ := he; cases h
          | out => exact he.2.elim
      · have q3 : ((ka : Int) == 17) = false := by simp; omega
        have hr2 := HR.out
        rw [if_neg h1, if_neg h2, if_neg h3] at hr2
        rw [← hr2] at HU
        clear hr2 h1 h2 h3 HN HB HM
        go_enter Tryz.func115, Tryz.ntmps115
        go_wp2_with fail
        refine HU.out.mono ?_
        intro e w1 he
        have HH := hid he
        cases e with
        | returned v => clear he; go_wp2_with fail; go_ret; exact HH.out
        | panicked c => exact ⟨rfl, he⟩
        | outgrown => cases r with
          | ok x a => obtain ⟨_, _, h, _⟩ := he; cases h
          | bad x a => obtain ⟨_, h, _⟩ := he; cases h
          | out => exact he.2.elim

end Go.Proofs.YtmmgkdcojkmlcaaGreatDoor

namespace Go.Proofs.YtmmgkdcojkmlcaaGreatDoor
open Go.RowKit

set_option maxRecDepth 100000 in
set_option maxHeartbeats 1000000 in
theorem exprX (R : Nat) (T : ByteArray) (f j l : Nat) (w : World) (hE : EC R T f) (hS : SC R T f) (hR : RdAt w R T j l) (hl : l ≤ 64) (r : Res Tr) (hr : r = pExpr (by' T) (f + 1) j l) (hro : r ≠ .out) :
    Calls Tryz.prog 81 #[.pointer (some ⟨R, 0, none⟩)] w (Rx w R T l l (VX w.heap.size) r) := by
  have hmf : ∀ (fn : Go.Fn) (first cap : Array Value) (w : World), (Instr.makeFunc fn first cap).run Tryz.prog w = .ok (.func fn first cap) w := fun _ _ _ _ => rfl
  have hF : ∀ args w, (callFunc 103 args).run Tryz.prog w = .ok (.enter 103 args) w := enters_of Tryz.func103 (by kernel_rfl) rfl
  have c1 : w.cell? ⟨R, 1, none⟩ = some (.int .i64 ((tok (by' T) j).kind : Int)) := by simp [World.cell?, hR.h]
  rw [pExpr] at hr
  have HL := hid (fun h1 => letX R T f j l w hE hR hl r h1 hro)
  have HN := hid (fun h1 => needX R T f j l w hE hS hR hl r h1 hro)
  have HC := hid (fun h1 => choiceX R T f j l w hE hR hl r h1 hro)
  have HS0 := hid (fun h1 => hS j l w hR hl h1)
  have HSS := hid (fun a W h h1 => hS a l W h hl h1)
  have hlt := hR.lt
  have HFF := hid hF
  have HRO := hid hro
  obtain ⟨ka, hka⟩ : ∃ ka, (tok (by' T) j).kind = ka := ⟨_, rfl⟩
  rw [hka] at c1 hr
  have HR := hid hr
  clear hR hr hro hE hS hka hF
  by_cases h1 : ka = 5
  · have q1 : ((ka : Int) == 5) = true := by rw [h1]; rfl
    have hr2 := HR.out
    rw [if_pos h1] at hr2
    have HC1 := hid (HL.out hr2)
    clear hr2 h1 HN HL HC HS0 HSS
    go_enter Tryz.func81, Tryz.ntmps81
    go_wp2_with fail
    refine HC1.out.mono ?_
    intro e w1 he
    have HH := hid he
    cases e with
    | returned v => clear he; go_wp2_with fail; go_ret; exact HH.out
    | panicked c => exact ⟨rfl, he⟩
    | outgrown => cases r with
      | ok x a => obtain ⟨_, _, h, _⟩ := he; cases h
      | bad x a => obtain ⟨_, h, _⟩ := he; cases h
      | out => exact he.2.elim
  · have q1 : ((ka : Int) == 5) = false := by simp; omega
    by_cases h2 : ka = 6
    · have q2 : ((ka : Int) == 6) = true := by rw [h2]; rfl
      have hr2 := HR.out
      rw [if_neg h1, if_pos h2] at hr2
      have HC1 := hid (HN.out hr2)
      clear hr2 h1 h2 HN HL HC HS0 HSS
      go_enter Tryz.func81, Tryz.ntmps81
      go_wp2_with fail
      refine HC1.out.mono ?_
      intro e w1 he
      have HH := hid he
      cases e with
      | returned v => clear he; go_wp2_with fail; go_ret; exact HH.out
      | panicked c => exact ⟨rfl, he⟩
      | outgrown => cases r with
        | ok x a => obtain ⟨_, _, h, _⟩ := he; cases h
        | bad x a => obtain ⟨_, h, _⟩ := he; cases h
        | out => exact he.2.elim
    · have q2 : ((ka : Int) == 6) = false := by simp; omega
      by_cases h3 : ka = 7
      · have q3 : ((ka : Int) == 7) = true := by rw [h3]; rfl
        have hr2 := HR.out
        rw [if_neg h1, if_neg h2, if_pos h3] at hr2
        have HC1 := hid (HC.out hr2)
        clear hr2 h1 h2 h3 HN HL HC HS0 HSS
        go_enter Tryz.func81, Tryz.ntmps81
        go_wp2_with fail
        refine HC1.out.mono ?_
        intro e w1 he
        have HH := hid he
        cases e with
        | returned v => clear he; go_wp2_with fail; go_ret; exact HH.out
        | panicked c => exact ⟨rfl, he⟩
        | outgrown => cases r with
          | ok x a => obtain ⟨_, _, h, _⟩ := he; cases h
          | bad x a => obtain ⟨_, h, _⟩ := he; cases h
          | out => exact he.2.elim
      · have q3 : ((ka : Int) == 7) = false := by simp; omega
        have hr2 := HR.out
        rw [if_neg h1, if_neg h2, if_neg h3] at hr2
        have hne : pSum (by' T) f j l ≠ .out := fun e => by rw [e] at hr2; exact HRO.out hr2
        have HC1 := hid (HS0.out hne)
        have HR1 := hid hr2
        clear hr2 h1 h2 h3 HN HL HC HS0 HR
        go_enter Tryz.func81, Tryz.ntmps81
        go_wp2_with fail
        refine HC1.out.mono ?_
        intro e w1 he
        have hr2 := HR1.out
        cases ht : pSum (by' T) f j l with
        | out => exact absurd ht hne
        | bad er at' =>
          rw [ht] at he hr2
          obtain ⟨h5, rfl, h6⟩ := he
          simp only [Res.bind] at hr2
          subst hr2
          exact ⟨rfl, h5, rfl, h6⟩
        | ok x a1 =>
          rw [ht] at he hr2
          obtain ⟨h5, v, rfl, hv, h6⟩ := he
          obtain ⟨q, rfl⟩ := hv.form
          simp only [Res.bind] at hr2
          have HF1 := hid h5
          have HD1 := hid h6
          have HV1 : Hid (PT w.heap.size w1 x (.pointer (some ⟨q, 0, none⟩))) := hv
          have d1 : w1.cell? ⟨R, 1, none⟩ = some (.int .i64 ((tok (by' T) a1).kind : Int)) := by simp [World.cell?, h6.h]
          obtain ⟨kb, hkb⟩ : ∃ kb, (tok (by' T) a1).kind = kb := ⟨_, rfl⟩
          rw [hkb] at d1 hr2
          clear hv h5 h6 ht hne HC1 HR1 hkb c1 q1 q2 q3
          by_cases h15 : kb = 15
          · rw [if_pos h15] at hr2
            have q4 : ((kb : Int) == 15) = true := by rw [h15]; rfl
            have hne : pSum (by' T) f (tok (by' T) a1).nx l ≠ .out := fun e => by rw [e] at hr2; exact HRO.out hr2
            have HC2 := hid (pairX w.heap.size 103 HFF.out R T a1 l 8 x _ w1 _ HD1.out HV1.out hlt HF1.out.size hne (fun W h => HSS.out _ W h hne))
            have hr4 : r = (pSum (by' T) f (tok (by' T) a1).nx l).bind fun y a => .ok (.node 8 [] 0 0 [x, y]) a := hr2
            rw [← hr4] at HC2
            clear hr2 hr4 h15 hne HSS
            go_wp2_with fail
            refine HC2.out.mono ?_
            intro e w2 he
            have h7 := he.1
            have HH : Hid (Rx w R T l l (VX w.heap.size) r e w2) := ⟨HF1.out.trans h7, he.2⟩
            cases e with
            | returned v => clear he h7; go_wp2_with fail; go_ret; exact HH.out
            | panicked c => exact ⟨rfl, HH.out⟩
            | outgrown => cases r with
              | ok x a => obtain ⟨_, _, h, _⟩ := he; cases h
              | bad x a => obtain ⟨_, h, _⟩ := he; cases h
              | out => exact he.2.elim
          · rw [if_neg h15] at hr2
            have q4 : ((kb : Int) == 15) = false := by simp; omega
            have HR2 := hid hr2
            clear hr2 h15 HSS
            go_wp2_with fail
            go_ret
            have hr3 := HR2.out
            subst hr3
            exact ⟨HF1.out, _, rfl, HV1.out, HD1.out⟩

def LC (R : Nat) (T : ByteArray) (f : Nat) : Prop := ∀ a l W (r : Res (List Tr)), l ≤ 64 → RdAt W R T a l → r = pList (by' T) f a l → r ≠ .out → Calls Tryz.prog 121 #[.pointer (some ⟨R, 0, none⟩), .func (.func 81) #[.pointer (some ⟨R, 0, none⟩)] #[]] W (Rx W R T l l (VL W.heap.size) r)
/-- all of them, with any fuel -/
theorem read_all (R : Nat) (T : ByteArray) : ∀ f g, g ≤ f → EC R T g ∧ SC R T g ∧ PC R T g ∧ XC R T g ∧ LC R T g
  | 0, g, hg => by
    obtain rfl : g = 0 := by omega
    refine ⟨?_, ?_, ?_, ?_, ?_⟩
    · intro a l w _ _ h; rw [pExpr] at h; exact absurd rfl h
    · intro a l w _ _ h; rw [pSum] at h; exact absurd rfl h
    · intro a l w _ _ h; rw [pProd] at h; exact absurd rfl h
    · intro a l w _ _ h; rw [pPart] at h; exact absurd rfl h
    · intro a l w r _ _ h h2; rw [pList] at h; exact absurd h h2
  | f + 1, g, hg => by
    have ih := read_all R T f
    rcases Nat.lt_or_ge f g with h | h
    · obtain rfl : g = f + 1 := by omega
      have i0 := ih f (Nat.le_refl _)
      refine ⟨?_, ?_, ?_, ?_, ?_⟩
      · intro a l w h1 h2 h3; exact exprX R T f a l w i0.1 i0.2.1 h1 h2 _ rfl h3
      · intro a l w h1 h2 h3; exact sumX R T f a l w (fun g hg => (ih g hg).2.2.1) h1 h2 _ rfl h3
      · intro a l w h1 h2 h3; exact productX R T f a l w (fun g hg => (ih g hg).2.2.2.1) h1 h2 _ rfl h3
      · intro a l w h1 h2 h3; exact partX R T f a l w i0.1 i0.2.2.2.1 (fun a W r => i0.2.2.2.2 a l W r h2) h1 h2 _ rfl h3
      · intro a l w r h1 h2 h3 h4; exact listX R T f a l w (fun g hg => (ih g hg).1) h2 h1 r h3 h4
    · exact ih g h

end Go.Proofs.YtmmgkdcojkmlcaaGreatDoor

namespace Go.Proofs.YtmmgkdcojkmlcaaGreatDoor
open Go.RowKit

/-- names, as they lie in memory -/
def nmv : List (List UInt8 × Nat) → List Value
  | [] => []
  | x :: r => .string (bs x.1) :: .int .i64 (x.2 : Int) :: nmv r
theorem nmv_app : ∀ l m, nmv (l ++ m) = nmv l ++ nmv m
  | [], m => rfl
  | x :: r, m => by simp [nmv, nmv_app r m]
theorem nmv_at : ∀ (l : List (List UInt8 × Nat)) (i : Nat) (x : List UInt8 × Nat), l[i]? = some x → (nmv l)[i * 2]? = some (.string (bs x.1)) ∧ (nmv l)[i * 2 + 1]? = some (.int .i64 (x.2 : Int))
  | [], i, x, h => by simp at h
  | y :: r, 0, x, h => by simp at h; subst h; exact ⟨rfl, rfl⟩
  | y :: r, i + 1, x, h => by
    have ih := nmv_at r i x (by simpa using h)
    rw [show (i + 1) * 2 = i * 2 + 2 by omega]
    exact ih
def RowN (base : Nat) (w : World) (v : Value) (ts : List (List UInt8 × Nat)) : Prop := w.ownsRow base 68 2 v ts.length (nmv ts)
theorem RowN.fr {R base : Nat} {w w' : World} {v : Value} {ts : List (List UInt8 × Nat)} (h : RowN base w v ts) (f : Fr R w w') (hb : R < base) : RowN base w' v ts := ownsRow_fr h f hb
theorem RowN.form {base : Nat} {w : World} {v : Value} {ts : List (List UInt8 × Nat)} (h : RowN base w v ts) : ∃ a c, v = .slice a ts.length c := by
  rcases h.2 with ⟨rfl, h0⟩ | ⟨g, cap, cur, rfl, _⟩
  · exact ⟨none, 0, by rw [h0]⟩
  · exact ⟨_, _, rfl⟩
/-- names in memory -/
def NmR (lo : Nat) (w : World) (a : Option Addr) (ts : List (List UInt8 × Nat)) : Prop := ∀ (i : Nat) x, ts[i]? = some x → ∃ g, a = some ⟨g, 0, none⟩ ∧ lo ≤ g ∧ w.cell? ⟨g, i * 2, none⟩ = some (.string (bs x.1)) ∧ w.cell? ⟨g, i * 2 + 1, none⟩ = some (.int .i64 (x.2 : Int))
theorem NmR.keep {lo lo' : Nat} {w w' : World} {a : Option Addr} {ts : List (List UInt8 × Nat)} (h : NmR lo w a ts) (hl : lo' ≤ lo) (hk : ∀ b, lo ≤ b → b < w.heap.size → w'.heap[b]? = w.heap[b]?) : NmR lo' w' a ts := fun i x hx => by
  obtain ⟨g, h1, h2, h3, h4⟩ := h i x hx
  have hb := hk g h2 (World.block_lt_of_cell? _ _ h3)
  exact ⟨g, h1, Nat.le_trans hl h2, (World.cell?_of_block (a := ⟨g, i * 2, none⟩) hb).trans h3, (World.cell?_of_block (a := ⟨g, i * 2 + 1, none⟩) hb).trans h4⟩
def VN (lo : Nat) : World → Value → List (List UInt8 × Nat) → Prop := fun w v ts => ∃ a c, v = .slice a ts.length c ∧ NmR lo w a ts
theorem RowN.vl {base : Nat} {w : World} {v : Value} {ts : List (List UInt8 × Nat)} (h : RowN base w v ts) : VN base w v ts := by
  rcases h.2 with ⟨rfl, h0⟩ | ⟨g, cap, cur, rfl, hbs, _⟩
  · obtain rfl : ts = [] := List.length_eq_zero_iff.1 h0
    exact ⟨none, 0, rfl, fun i x hx => by simp at hx⟩
  · refine ⟨_, _, rfl, fun i x hx => ⟨g, rfl, hbs, ?_⟩⟩
    obtain ⟨e1, e2⟩ := nmv_at ts i x hx
    have hadd : ∀ j, (⟨g, 0, none⟩ : Addr).add j = ⟨g, j, none⟩ := fun j => by unfold Addr.add; split <;> simp_all
    have h5 := h.cells (g := g) rfl _ _ e1
    have h6 := h.cells (g := g) rfl _ _ e2
    rw [hadd] at h5 h6
    exact ⟨h5, h6⟩
theorem cell_two_new (w : World) (x y : Value) (t : TypeId) : ∀ j u, [x, y][j]? = some u → (w.alloc (.cells #[x, y] t)).cell? ((⟨w.heap.size, 0, none⟩ : Addr).add j) = some u := by
  intro j u hj
  have hadd : (⟨w.heap.size, 0, none⟩ : Addr).add j = ⟨w.heap.size, j, none⟩ := by unfold Addr.add; split <;> simp_all
  rw [hadd]
  unfold World.cell?
  rw [heap_alloc_new]
  match j, hj with
  | 0, hj => simpa using hj
  | 1, hj => simpa using hj
  | n + 2, hj => simp at hj
/-- what is left to read behind some names -/
def NamR (T : ByteArray) (f : Nat) (r : Res (List (List UInt8 × Nat))) (ts : List (List UInt8 × Nat)) (a : Nat) : Prop :=
  (ts = [] ∧ r = (pTake (by' T) 11 a).bind fun _ a4 => .ok [] a4) ∨ (ts ≠ [] ∧ ∃ g, g ≤ f ∧ r = (pNames (by' T) g ts a).bind fun xs a3 => (pTake (by' T) 11 a3).bind fun _ a4 => .ok xs a4)
theorem pBrack_enter (L : List UInt8) (f j : Nat) : pBrack L f j = (pEnter L 10 j 0).bind fun _ a1 => (if (tok L a1).kind = 11 then .ok [] a1 else (pName L a1).bind fun x a2 => pNames L f [x] a2).bind fun xs a3 => (pTake L 11 a3).bind fun _ a4 => .ok xs a4 := by
  unfold pBrack pEnter
  cases pTake L 10 j with
  | out => rfl
  | bad e a => rfl
  | ok t a => rfl

set_option maxRecDepth 100000 in
set_option maxHeartbeats 4000000 in
theorem brackX (R : Nat) (T : ByteArray) (f j : Nat) (w : World) (hR : RdAt w R T j 0) (r : Res (List (List UInt8 × Nat))) (hr : r = pBrack (by' T) f j) (hro : r ≠ .out) :
    Calls Tryz.prog 80 #[.pointer (some ⟨R, 0, none⟩), .func (.func 79) #[.pointer (some ⟨R, 0, none⟩)] #[]] w (Rx w R T 0 0 (VN w.heap.size) r) := by
  have hl : (0 : Nat) ≤ 64 := by omega
  have HT := hid (enterX R T j 0 10 w hR hl)
  have hlt := hR.lt
  have HSM := hid hR.small
  rw [pBrack_enter] at hr
  have HR := hid hr
  have HRO := hid hro
  obtain ⟨i0, hi, hz0, hz1, hz2⟩ := info_parts (show (Tryz.prog.info? 68).map (fun i => (i.zero, i.size, i.bytes)) = some (some (.agg #[.string ⟨#[]⟩, .int .i64 0]), 2, 24) by kernel_rfl)
  have HI := hid (And.intro hi (And.intro hz0 (And.intro hz1 hz2)))
  clear hR hr hro hi hz0 hz1 hz2
  go_enter_defers Tryz.func80, Tryz.ntmps80
  go_wp2_with fail
  refine HT.out.mono ?_
  intro e w0 he
  cases hp : pEnter (by' T) 10 j 0 with
  | out => exact absurd hp pEnter_out
  | bad er at' =>
    rw [hp] at he
    obtain ⟨h1, rfl, h2⟩ := he
    have hr2 := HR.out
    rw [hp] at hr2
    subst hr2
    exact ⟨h1, rfl, h2⟩
  | ok u a0 =>
    rw [hp] at he
    obtain ⟨h1, v, rfl, rfl, h2⟩ := he
    have hr2 := HR.out
    rw [hp] at hr2
    simp only [Res.bind] at hr2
    have HF0 := hid h1
    have HD0 := hid h2
    have HR0 := hid hr2
    have c1 : w0.cell? ⟨R, 1, none⟩ = some (.int .i64 ((tok (by' T) a0).kind : Int)) := by simp [World.cell?, h2.h]
    clear h1 h2 hp HT HR hr2
    obtain ⟨kd, hkd⟩ : ∃ kd, (tok (by' T) a0).kind = kd := ⟨_, rfl⟩
    have HKD := hid hkd
    rw [hkd] at c1
    clear hkd
    by_cases h11 : kd = 11
    case' pos =>
      have q : ((kd : Int) != 11) = false := by rw [h11]; rfl
      have hr2 := HR0.out
      rw [if_pos (HKD.out.trans h11)] at hr2
      have HAr : Hid (NamR T f r [] a0) := .inl ⟨rfl, hr2⟩
      clear hr2 h11
      go_wp2_with fail
      obtain ⟨wA, hwA⟩ : ∃ wA, wA = w0 := ⟨_, rfl⟩
      obtain ⟨vA, hvA⟩ : ∃ vA : Value, vA = .slice none 0 0 := ⟨_, rfl⟩
      obtain ⟨tsA, htA⟩ : ∃ tsA : List (List UInt8 × Nat), tsA = [] := ⟨_, rfl⟩
      obtain ⟨aA, haA⟩ : ∃ aA, aA = a0 := ⟨_, rfl⟩
      have HRow : Hid (RowN w.heap.size wA vA tsA) := by rw [hwA, hvA, htA]; exact World.ownsRow_nil _ _ _ _
      have HLn : Hid (tsA.length ≤ aA) := by rw [htA]; exact Nat.zero_le _
      rw [← hwA, ← haA] at HD0
      rw [← hwA] at HF0
      rw [← htA, ← haA] at HAr
      rw [← hwA, ← hvA]
      have HFa := HF0
      have HDa := HD0
      clear hwA hvA htA haA HF0 HD0 HR0 q c1
    case' neg =>
      have q : ((kd : Int) != 11) = true := by simp; omega
      have hr2 := HR0.out
      rw [if_neg (fun e => h11 (HKD.out.symm.trans e))] at hr2
      have HC := hid (nameX R T a0 1 w0 HD0.out)
      have HR1 := hid hr2
      have hfx := pName_fx (by' T) a0 (by rw [by_len]; exact HD0.out.le)
      have HFX := hid hfx
      clear hr2 h11 hfx
      go_wp2_with fail
      refine HC.out.mono ?_
      intro e w1 he
      have hr2 := HR1.out
      rcases Res.three (pName (by' T) a0) with ⟨x, a1, ht⟩ | ⟨er, at', ht⟩ | ht
      rotate_left
      · rw [ht] at he hr2
        obtain ⟨h5, rfl, j3, h6⟩ := he
        (try simp only at hr2)
        subst hr2
        refine leave_pnc h6 hl ?_
        exact ⟨(HF0.out.trans h5).set 4 _, rfl, j3, h6.level 0⟩
      · exact absurd ht pName_out
      rw [ht] at he hr2
      obtain ⟨h5, v, rfl, rfl, h6⟩ := he
      unfold namv
      (try simp only at hr2)
      have hfx := HFX.out
      rw [ht] at hfx
      have hF1 := HF0.out.trans h5
      have HAr : Hid (NamR T f r [x] a1) := .inr ⟨by simp, f, Nat.le_refl _, hr2⟩
      have HLn : Hid ([x].length ≤ a1) := by have := hfx.1; show 1 ≤ a1; omega
      have hs0 := HF0.out.size
      have hs1 := hF1.size
      have HF1 := hid hF1
      have HD1 := hid h6
      clear HC h5 h6 hr2 ht hfx HFX HF0 HD0 HR0 HR1 q c1 hF1
      go_wp2_with (at_builtin; refine wpList_append_own_at _ rfl _ _ 69 rfl w.heap.size 68 i0 (.agg #[.string ⟨#[]⟩, .int .i64 0]) 2 24 Tryz.underlying69 HI.out.1 HI.out.2.1 HI.out.2.2.1 HI.out.2.2.2 rfl (by decide) (.slice none 0 0) 0 [] rfl (World.ownsRow_nil _ _ _ _) ⟨w1.heap.size, 0, none⟩ 1 1 [.string (bs x.1), .int .i64 (x.2 : Int)] rfl rfl (cell_two_new _ _ _ _) (by simp [Value.oneCell']) (by simp [maxLen]) (by omega) (by simp; omega) ?_; intro v' w2 hown2 hgrow _ hwhere)
      have hbA : Below w1.heap.size w1 (w1.alloc (.cells #[.string (bs x.1), .int .i64 (x.2 : Int)] 68)) := (Below.refl _ _).alloc (Nat.le_refl _) _
      have HRow : Hid (RowN w.heap.size w2 v' [x]) := hown2
      have hfr2 : Fr R w w2 := (HF1.out.more hbA hlt).grown hgrow (fun k e => by simp [Value.ownBlock] at e) hlt
      have hrd2 : RdAt w2 R T a1 1 := by
        have h7 := HD1.out.below hbA
        exact ⟨(hgrow.block R h7.lt (by simp [Value.ownBlock])).trans h7.h, h7.le, h7.small, by
          obtain ⟨k1, ev, k2, k3⟩ := h7.ev
          exact ⟨k1, ev, hgrow.cell k2 (by simp [Value.ownBlock]), k3⟩⟩
      have HFa := hid hfr2
      have HDa := hid hrd2
      obtain ⟨tsA, htA⟩ : ∃ tsA : List (List UInt8 × Nat), tsA = [x] := ⟨_, rfl⟩
      rw [← htA] at HRow HLn HAr
      clear hbA hown2 hgrow hwhere hfr2 hrd2 htA HF1 HD1 hs0 hs1
    all_goals
      go_loopw [5] (fun v wr => ∃ (ts : List (List UInt8 × Nat)) (a : Nat), Hid (Fr R w wr) ∧ Hid (RdAt wr R T a 1) ∧ Hid (RowN w.heap.size wr v ts) ∧ Hid (ts.length ≤ a) ∧ Hid (NamR T f r ts a)) (fun _ wr => T.size + 1 - rdm R wr)
      case atStart => exact ⟨_, _, HFa, HDa, HRow, HLn, HAr⟩
      case round =>
        obtain ⟨ts, a, hF, hD, hRw, hLn, hAr⟩ := hrel
        obtain ⟨av, cv, rfl⟩ := hRw.out.form
        have c1 : wr.cell? ⟨R, 1, none⟩ = some (.int .i64 ((tok (by' T) a).kind : Int)) := by simp [World.cell?, hD.out.h]
        clear HFa HDa HRow HLn HAr
        have HRD := hid hD.out.rdm
        have HTA := hid (tok_at (by' T) a (by rw [by_len]; exact hD.out.le))
        obtain ⟨ka, hka⟩ : ∃ ka, (tok (by' T) a).kind = ka := ⟨_, rfl⟩
        rw [hka] at c1
        have HKA := hid hka
        obtain ⟨n, hn⟩ : ∃ n, ts.length = n := ⟨_, rfl⟩
        have HN := hid hn
        rw [hn] at hRw ⊢
        by_cases hc : ts ≠ [] ∧ ka = 12
        · have hnp : 0 < n := by rw [← hn]; exact List.length_pos_iff.2 hc.1
          have hnp2 : (0 : Int) < (n : Int) := by omega
          have q12 : ((ka : Int) == 12) = true := by rw [hc.2]; rfl
          have HT := hid (take_yes R T a 1 12 wr hD.out (hka.trans hc.2))
          have hgx : ∃ g, g + 1 ≤ f ∧ r = ((pName (by' T) (tok (by' T) a).nx).bind fun x j => pNames (by' T) g (ts ++ [x]) j).bind fun xs a3 => (pTake (by' T) 11 a3).bind fun _ a4 => .ok xs a4 := by
            rcases hAr.out with ⟨h0, _⟩ | ⟨_, g, hg, hr2⟩
            · exact absurd h0 hc.1
            · cases g with
              | zero => rw [pNames] at hr2; exact absurd hr2 HRO.out
              | succ g => exact ⟨g, hg, by rw [pNames, if_pos (hka.trans hc.2)] at hr2; exact hr2⟩
          obtain ⟨g, hgf, hr2⟩ := hgx
          have HG := hid hgf
          have HR1 := hid hr2
          have hnxx : (tok (by' T) a).at' + 1 ≤ (tok (by' T) a).nx := HTA.out.2.2.2.1 (by rw [hka, hc.2]; decide)
          have HNX := hid hnxx
          have HDL := hid hD.out.le
          clear hc hka hn hr2 hgf hnp hnxx
          generalize (tok (by' T) a).nx = nx at *
          generalize tokv (tok (by' T) a) = tv at *
          go_wp2_with fail
          refine HT.out.mono ?_
          rintro e w3 ⟨rfl, h3, h4⟩
          have HF3 := hid (hF.out.trans h3)
          have HD3 := hid h4
          have HRw3 := hid (hRw.out.fr h3 hlt)
          have HC := hid (nameX R T nx 1 w3 h4)
          have HFX := hid (pName_fx (by' T) nx (by rw [by_len]; exact h4.le))
          clear h3 h4 HT c1 q12 hF hD hRw
          go_wp2_with fail
          refine HC.out.mono ?_
          intro e w4 he
          have hr2 := HR1.out
          rcases Res.three (pName (by' T) nx) with ⟨x, a1, ht⟩ | ⟨er, at', ht⟩ | ht
          · rw [ht] at he hr2
            obtain ⟨h5, v, rfl, rfl, h6⟩ := he
            unfold namv
            (try simp only [Res.bind] at hr2)
            have hfx := HFX.out
            rw [ht] at hfx
            have hF4 := HF3.out.trans h5
            have hRw4 := HRw3.out.fr h5 hlt
            have hown4 : w4.ownsRow w.heap.size 68 2 (.slice av n cv) ts.length (nmv ts) := hRw4
            have hown3 := HRw3.out
            have hgl : ∀ k, (Value.slice av n cv).ownBlock = some k → w.heap.size ≤ k ∧ k < w3.heap.size := fun k e => hown3.lt k e
            have hownA := hown4.alloc (.cells #[.string (bs x.1), .int .i64 (x.2 : Int)] 68)
            have hAr2 : NamR T f r (ts ++ [x]) a1 := .inr ⟨by simp, g, by have := HG.out; omega, hr2⟩
            have hLn2 : (ts ++ [x]).length ≤ a1 := by
              have h7 := hLn.out
              have h8 := HTA.out.1
              have h9 := hfx.1
              have h10 := HNX.out
              rw [List.length_append]
              show ts.length + 1 ≤ a1
              omega
            have hn4 : n ≤ 4000 := by
              have h7 := hLn.out
              have h8 := HSM.out
              have h9 := HDL.out
              have h10 := HN.out
              omega
            have hs4 := hF4.size
            have HOWN := hid hownA
            have HAr2 := hid hAr2
            have HLn2 := hid hLn2
            have HF4 := hid hF4
            have HD4 := hid h6
            have HGL := hid hgl
            have HN4 := hid hn4
            have HS4 := hid hs4
            have hln : ts.length = n := HN.out
            rw [hln] at HOWN
            have HFX2 := hid hfx
            clear hownA hown4 hAr2 hLn2 hF4 h6 hgl hn4 hs4 hown3 h5 hr2 ht hfx HC HF3 HD3 HRw3 hln hRw4
            go_wp2_with (at_builtin; refine wpList_append_own_at _ rfl _ _ 69 rfl w.heap.size 68 i0 (.agg #[.string ⟨#[]⟩, .int .i64 0]) 2 24 Tryz.underlying69 HI.out.1 HI.out.2.1 HI.out.2.2.1 HI.out.2.2.2 rfl (by decide) (.slice av n cv) n (nmv ts) rfl HOWN.out ⟨w4.heap.size, 0, none⟩ 1 1 [.string (bs x.1), .int .i64 (x.2 : Int)] rfl rfl (cell_two_new _ _ _ _) (by simp [Value.oneCell']) (by have := HN4.out; unfold maxLen; omega) (by have := HN4.out; omega) (by have := HS4.out; simp; omega) ?_; intro v' w5 hown2 hgrow _ hwhere)
            have hbA : Below w4.heap.size w4 (w4.alloc (.cells #[.string (bs x.1), .int .i64 (x.2 : Int)] 68)) := (Below.refl _ _).alloc (Nat.le_refl _) _
            have hnR : some R ≠ (Value.slice av n cv).ownBlock := fun e => by have := (HGL.out R e.symm).1; omega
            have hln : ts.length = n := HN.out
            have hown2' := hown2
            rw [← hln] at hown2'
            have HRow2 : Hid (RowN w.heap.size w5 v' (ts ++ [x])) := by
              unfold Hid RowN
              rw [nmv_app, List.length_append]
              exact hown2'
            have hfr5 : Fr R w w5 := (HF4.out.more hbA hlt).grown hgrow (fun k e => (HGL.out k e).1) hlt
            have hrd5 : RdAt w5 R T a1 1 := by
              have h7 := HD4.out.below hbA
              exact ⟨(hgrow.block R h7.lt hnR).trans h7.h, h7.le, h7.small, by
                obtain ⟨k1, ev, k2, k3⟩ := h7.ev
                exact ⟨k1, ev, hgrow.cell k2 (fun e => by have := (HGL.out _ e.symm).1; simp at this; omega), k3⟩⟩
            have HFa := hid hfr5
            have HDa := hid hrd5
            have hm : T.size + 1 - rdm R w5 < T.size + 1 - rdm R wr := by
              rw [hrd5.rdm, HRD.out]
              have k1 := tok_at (by' T) a1 (by rw [by_len]; exact hrd5.le)
              rw [by_len] at k1
              have k2 := HTA.out
              have k3 := HFX2.out.1
              have k4 := HNX.out
              omega
            have HM := hid hm
            clear hbA hnR hln hown2' hown2 hgrow hwhere hfr5 hrd5 hm
            go_roundw
            case rel => exact ⟨ts ++ [x], a1, HFa, HDa, HRow2, HLn2, HAr2⟩
            case measure => exact HM.out
          · rw [ht] at he hr2
            obtain ⟨h5, rfl, j3, h6⟩ := he
            (try simp only [Res.bind] at hr2)
            subst hr2
            refine leave_pnc h6 hl ?_
            exact ⟨(HF3.out.trans h5).set 4 _, rfl, j3, h6.level 0⟩
          · exact absurd ht pName_out
        · have hr2 : r = (pTake (by' T) 11 a).bind fun _ a4 => .ok ts a4 := by
            rcases hAr.out with ⟨h0, h1⟩ | ⟨h0, g, hg, h1⟩
            · rw [h0]; exact h1
            · cases g with
              | zero => rw [pNames] at h1; exact absurd h1 HRO.out
              | succ g => rw [pNames, if_neg (fun e => hc ⟨h0, hka.symm.trans e⟩)] at h1; exact h1
          have HR1 := hid hr2
          have hq : n = 0 ∨ (0 < n ∧ ((ka : Int) == 12) = false) := by
            rcases Nat.eq_zero_or_pos n with h0 | h0
            · exact .inl h0
            · refine .inr ⟨h0, ?_⟩
              have h5 : ¬ ka = 12 := fun e => hc ⟨fun e2 => by rw [e2] at hn; simp at hn; omega, e⟩
              simp
              omega
          have HT := hid (takeX R T a 1 11 wr hD.out)
          have HRV := hid hRw.out.vl
          clear hc hka hn hr2 hAr
          rcases hq with rfl | ⟨hnp, q12⟩
          case' inr => have hnp2 : (0 : Int) < (n : Int) := by omega
          all_goals
            go_wp2_with fail
            refine HT.out.mono ?_
            intro e w3 he
            have hr2 := HR1.out
            cases ht : pTake (by' T) 11 a with
            | out => exact absurd ht pTake_out
            | bad er at' =>
              rw [ht] at he hr2
              obtain ⟨h5, rfl, j3, h6⟩ := he
              (try simp only [Res.bind] at hr2)
              subst hr2
              refine leave_pnc h6 hl ?_
              exact ⟨(hF.out.trans h5).set 4 _, rfl, j3, h6.level 0⟩
            | ok t3 a3 =>
              rw [ht] at he hr2
              obtain ⟨h5, v, rfl, rfl, h6⟩ := he
              (try simp only [Res.bind] at hr2)
              have HF3 := hid (hF.out.trans h5)
              have HD3 := hid h6
              have HRw3 := hid (hRw.out.fr h5 hlt)
              have HR3 := hid hr2
              clear h5 h6 hr2 ht HT
              go_wp2_with fail
              have hr3 := HR3.out
              subst hr3
              refine leave_ret HD3.out hl (results_tmp rfl _ _ _) ?_
              exact ⟨HF3.out.set 4 _, _, rfl, (HRw3.out.fr ((Fr.refl R _).set 4 _) hlt).vl, HD3.out.level 0⟩

end Go.Proofs.YtmmgkdcojkmlcaaGreatDoor

namespace Go.Proofs.YtmmgkdcojkmlcaaGreatDoor
open Go.RowKit

/-- a function as a value -/
def VF (lo : Nat) : World → Value → FnT → Prop := fun w v g => ∃ a c b, v = .agg #[.string (bs g.name), .int .i64 (g.at' : Int), .slice a g.more.length c, .pointer (some ⟨b, 0, none⟩)] ∧ NmR lo w a g.more ∧ PT lo w g.body (.pointer (some ⟨b, 0, none⟩))

set_option maxRecDepth 100000 in
set_option maxHeartbeats 2000000 in
theorem functionX (R : Nat) (T : ByteArray) (f j : Nat) (w : World) (hR : RdAt w R T j 0) (r : Res FnT) (hr : r = pFun (by' T) f j) (hro : r ≠ .out) :
    Calls Tryz.prog 56 #[.pointer (some ⟨R, 0, none⟩)] w (Rx w R T 0 0 (VF w.heap.size) r) := by
  have hmf : ∀ (fn : Go.Fn) (first cap : Array Value) (w : World), (Instr.makeFunc fn first cap).run Tryz.prog w = .ok (.func fn first cap) w := fun _ _ _ _ => rfl
  obtain ⟨V, hV⟩ : ∃ V, V = w.alloc (.cells #[.string ⟨#[]⟩, .int .i64 0, .slice none 0 0, .pointer none] 72) := ⟨_, rfl⟩
  have hb0 : Below w.heap.size w V := by rw [hV]; exact (Below.refl _ _).alloc (Nat.le_refl _) _
  have hv0 : V.heap[w.heap.size]? = some (.cells #[.string ⟨#[]⟩, .int .i64 0, .slice none 0 0, .pointer none] 72 (0, 0)) := by rw [hV]; exact heap_alloc_new w _
  have HT := hid (takeX R T j 0 4 V (hR.below hb0))
  have hlt := hR.lt
  have HB0 := hid hb0
  have HV0 := hid hv0
  have HFV : Hid (Fr R w V) := Fr.below HB0.out (Nat.le_of_lt hlt)
  unfold pFun at hr
  have HR := hid hr
  have HRO := hid hro
  clear hR hb0 hv0 hr hro
  go_enter Tryz.func56, Tryz.ntmps56
  go_wp2_with fail
  rw [← hV]
  clear hV
  refine HT.out.mono ?_
  intro e w1 he
  have hr2 := HR.out
  cases ht : pTake (by' T) 4 j with
  | out => exact absurd ht pTake_out
  | bad er at' =>
    rw [ht] at he hr2
    obtain ⟨h5, rfl, h6⟩ := he
    simp only [Res.bind] at hr2
    subst hr2
    exact ⟨rfl, HFV.out.trans h5, rfl, h6⟩
  | ok t1 a1 =>
    rw [ht] at he hr2
    obtain ⟨h5, v, rfl, rfl, h6⟩ := he
    simp only [Res.bind] at hr2
    have HF1 := hid (HFV.out.trans h5)
    have HD1 := hid h6
    have HR1 := hid hr2
    have HO1 : Hid (w1.heap[w.heap.size]? = some (.cells #[.string ⟨#[]⟩, .int .i64 0, .slice none 0 0, .pointer none] 72 (0, 0))) := (h5.2 _ (Array.getElem?_eq_some_iff.1 HV0.out).1 (by omega)).trans HV0.out
    clear h5 h6 hr2 ht HT HR HFV HV0 HB0
    have HT := hid (nameX R T a1 0 w1 HD1.out)
    go_wp2_with fail
    refine HT.out.mono ?_
    intro e w2 he
    have hr2 := HR1.out
    cases ht : pName (by' T) a1 with
    | out => exact absurd ht pName_out
    | bad er at' =>
      rw [ht] at he hr2
      obtain ⟨h5, rfl, h6⟩ := he
      (try simp only at hr2)
      subst hr2
      exact ⟨rfl, HF1.out.trans h5, rfl, h6⟩
    | ok nm a2 =>
      rw [ht] at he hr2
      obtain ⟨h5, v, rfl, rfl, h6⟩ := he
      (try simp only at hr2)
      have HF2 := hid (HF1.out.trans h5)
      have HD2 := hid h6
      have HR2 := hid hr2
      replace HO1 := hid ((h5.2 _ (Array.getElem?_eq_some_iff.1 HO1.out).1 (by omega)).trans HO1.out)
      have hne : pBrack (by' T) f a2 ≠ .out := fun e => by rw [e] at hr2; exact HRO.out hr2
      have HT := hid (brackX R T f a2 w2 h6 _ rfl hne)
      obtain ⟨s, hs⟩ : ∃ s, s = bs nm.1 := ⟨_, rfl⟩
      have HS := hid hs
      unfold namv
      rw [← hs]
      clear h5 h6 hr2 ht HF1 HD1 HR1 hs
      go_wp2_with fail
      refine HT.out.mono ?_
      intro e w3 he
      have hr2 := HR2.out
      cases ht : pBrack (by' T) f a2 with
      | out => exact absurd ht hne
      | bad er at' =>
        rw [ht] at he hr2
        obtain ⟨h5, rfl, h6⟩ := he
        (try simp only at hr2)
        subst hr2
        exact ⟨rfl, HF2.out.trans h5, rfl, h6⟩
      | ok more a3 =>
        rw [ht] at he hr2
        obtain ⟨h5, v, rfl, ⟨av, cv, rfl, hnm⟩, h6⟩ := he
        (try simp only at hr2)
        have hs2 := HF2.out.size
        obtain ⟨n, hn⟩ : ∃ n, n = more.length := ⟨_, rfl⟩
        have HN := hid hn
        rw [← hn]
        obtain ⟨W3, hW3⟩ : ∃ W3, W3 = w3.alloc (.cells #[.string s, .int .i64 (nm.2 : Int), .slice av n cv, .pointer none] 72) := ⟨_, rfl⟩
        have hbN : Below w3.heap.size w3 W3 := by rw [hW3]; exact (Below.refl _ _).alloc (Nat.le_refl _) _
        have hl3 : W3.heap[w3.heap.size]? = some (.cells #[.string s, .int .i64 (nm.2 : Int), .slice av n cv, .pointer none] 72 (0, 0)) := by rw [hW3]; exact heap_alloc_new w3 _
        obtain ⟨N, hN⟩ : ∃ N, N = w3.heap.size := ⟨_, rfl⟩
        rw [← hN] at hl3
        have hwn : w.heap.size < N := by have := (Array.getElem?_eq_some_iff.1 HO1.out).1; have := h5.size; omega
        have HWN := hid hwn
        have HF3 := hid ((HF2.out.trans h5).more hbN hlt)
        have HD3 := hid (h6.below hbN)
        have HR3 := hid hr2
        have HNM := hid (hnm.keep hs2 (fun b _ hb => hbN.block b hb))
        have HL3 := hid hl3
        have hav : ∀ g, av = some ⟨g, 0, none⟩ → more ≠ [] → w.heap.size < g ∧ g < N := fun g e hm => by
          cases more with
          | nil => exact absurd rfl hm
          | cons x q =>
            obtain ⟨g2, k1, k2, k3, _⟩ := hnm 0 x rfl
            rw [e] at k1
            injection k1 with k1
            injection k1 with k1
            subst k1
            have k4 := World.block_lt_of_cell? _ _ k3
            have k5 := (Array.getElem?_eq_some_iff.1 HO1.out).1
            exact ⟨by omega, by rw [hN]; exact k4⟩
        have HAV := hid hav
        clear hav
        replace HO1 := hid ((hbN.block _ (by have := (Array.getElem?_eq_some_iff.1 HO1.out).1; have := h5.size; omega)).trans ((h5.2 _ (Array.getElem?_eq_some_iff.1 HO1.out).1 (by omega)).trans HO1.out))
        clear h5 h6 hr2 ht HF2 HD2 HR2 HT hnm hbN hs2 hl3 hwn hn
        have HNN := hid hN
        have HW3 := hid hW3
        clear hN hW3
        have HT := hid (takeX R T a3 0 14 W3 HD3.out)
        go_wp2_with fail
        rw [← HNN.out, ← HW3.out]
        clear HW3 HNN
        refine HT.out.mono ?_
        intro e w4 he
        have hr2 := HR3.out
        cases ht : pTake (by' T) 14 a3 with
        | out => exact absurd ht pTake_out
        | bad er at' =>
          rw [ht] at he hr2
          obtain ⟨h5, rfl, h6⟩ := he
          (try simp only at hr2)
          subst hr2
          exact ⟨rfl, HF3.out.trans h5, rfl, h6⟩
        | ok t4 a4 =>
          rw [ht] at he hr2
          obtain ⟨h5, v, rfl, rfl, h6⟩ := he
          (try simp only at hr2)
          have HF4 := hid (HF3.out.trans h5)
          have HD4 := hid h6
          have HR4 := hid hr2
          have hNR : N ≠ R := by have := HWN.out; omega
          replace HO1 := hid ((h5.2 _ (Array.getElem?_eq_some_iff.1 HO1.out).1 (by omega)).trans HO1.out)
          replace HL3 := hid ((h5.2 _ (Array.getElem?_eq_some_iff.1 HL3.out).1 hNR).trans HL3.out)
          replace HNM := hid (HNM.out.keep (Nat.le_refl _) (fun b hb hb2 => h5.2 b hb2 (by omega)))
          have hne : pExpr (by' T) f a4 0 ≠ .out := fun e => by rw [e] at hr2; exact HRO.out hr2
          have HC := hid ((read_all R T f f (Nat.le_refl _)).1 a4 0 w4 h6 (by omega) hne)
          clear h5 h6 hr2 ht HT HF3 HD3 HR3
          go_wp2_with fail
          refine HC.out.mono ?_
          intro e w5 he
          have hr2 := HR4.out
          cases ht : pExpr (by' T) f a4 0 with
          | out => exact absurd ht hne
          | bad er at' =>
            rw [ht] at he hr2
            obtain ⟨h5, rfl, h6⟩ := he
            (try simp only at hr2)
            subst hr2
            exact ⟨rfl, HF4.out.trans h5, rfl, h6⟩
          | ok x a5 =>
            rw [ht] at he hr2
            obtain ⟨h5, v, rfl, hv, h6⟩ := he
            obtain ⟨q, rfl⟩ := hv.form
            (try simp only at hr2)
            have hs4 := HF4.out.size
            have HF5 := hid (HF4.out.trans h5)
            have HD5 := hid h6
            have HR5 := hid hr2
            have HVx : Hid (PT w4.heap.size w5 x (.pointer (some ⟨q, 0, none⟩))) := hv
            have hN4 : N < w4.heap.size := (Array.getElem?_eq_some_iff.1 HL3.out).1
            have HN4 := hid hN4
            have ho5 := (h5.2 _ (Array.getElem?_eq_some_iff.1 HO1.out).1 (by omega)).trans HO1.out
            have hl5 := (h5.2 _ (Array.getElem?_eq_some_iff.1 HL3.out).1 hNR).trans HL3.out
            have HNM5 := hid (HNM.out.keep (Nat.le_refl _) (fun b hb hb2 => h5.2 b hb2 (by omega)))
            have HO5 := hid ho5
            have HL5 := hid hl5
            have hNw : N ≠ w.heap.size := by have := HWN.out; omega
            have l0 : w5.cell? ⟨N, 0, none⟩ = some (.string s) := by simp [World.cell?, hl5]
            have l1 : w5.cell? ⟨N, 1, none⟩ = some (.int .i64 (nm.2 : Int)) := by simp [World.cell?, hl5]
            have l2 : w5.cell? ⟨N, 2, none⟩ = some (.slice av n cv) := by simp [World.cell?, hl5]
            have l3 : w5.cell? ⟨N, 3, none⟩ = some (.pointer none) := by simp [World.cell?, hl5]
            have lf := fun i => frozen_of_row w5 N i _ _ hl5
            have o0 : w5.cell? ⟨w.heap.size, 0, none⟩ = some (.string ⟨#[]⟩) := by simp [World.cell?, ho5]
            have o1 : w5.cell? ⟨w.heap.size, 1, none⟩ = some (.int .i64 0) := by simp [World.cell?, ho5]
            have o2 : w5.cell? ⟨w.heap.size, 2, none⟩ = some (.slice none 0 0) := by simp [World.cell?, ho5]
            have o3 : w5.cell? ⟨w.heap.size, 3, none⟩ = some (.pointer none) := by simp [World.cell?, ho5]
            have of' := fun i => frozen_of_row w5 w.heap.size i _ _ ho5
            clear h5 h6 hr2 ht hv hne HC HO1 HL3 HNM HF4 HD4 HR4 ho5 hl5
            go_wp2_with fail
            obtain ⟨W9, hW9⟩ : ∃ W9, W9 = ((((w5.setCell ⟨N, 3, none⟩ (.pointer (some ⟨q, 0, none⟩))).setCell ⟨w.heap.size, 0, none⟩ (.string s)).setCell ⟨w.heap.size, 1, none⟩ (.int .i64 (nm.2 : Int))).setCell ⟨w.heap.size, 2, none⟩ (.slice av n cv)).setCell ⟨w.heap.size, 3, none⟩ (.pointer (some ⟨q, 0, none⟩)) := ⟨_, rfl⟩
            have hwN := HWN.out
            have hoth : ∀ b, b ≠ N → b ≠ w.heap.size → W9.heap[b]? = w5.heap[b]? := fun b k1 k2 => by
              rw [hW9, heap_setCell_other _ _ _ _ k2, heap_setCell_other _ _ _ _ k2, heap_setCell_other _ _ _ _ k2, heap_setCell_other _ _ _ _ k2, heap_setCell_other _ _ _ _ k1]
            have hrow : W9.heap[w.heap.size]? = some (.cells #[.string s, .int .i64 (nm.2 : Int), .slice av n cv, .pointer (some ⟨q, 0, none⟩)] 72 (0, 0)) := by
              rw [hW9]
              exact heap_setCell_same _ _ 3 _ _ _ (heap_setCell_same _ _ 2 _ _ _ (heap_setCell_same _ _ 1 _ _ _ (heap_setCell_same _ _ 0 _ _ _ ((heap_setCell_other _ _ _ _ (by show w.heap.size ≠ N; omega)).trans HO5.out))))
            have hfr : Fr R w W9 := by
              rw [hW9]
              exact ((((HF5.out.setNew (g := N) (by omega) hlt 3 _).setNew (Nat.le_refl _) hlt 0 _).setNew (Nat.le_refl _) hlt 1 _).setNew (Nat.le_refl _) hlt 2 _).setNew (Nat.le_refl _) hlt 3 _
            have hrd : RdAt W9 R T a5 0 := by
              have h7 := HD5.out
              refine ⟨(hoth R (by omega) (by omega)).trans h7.h, h7.le, h7.small, ?_⟩
              obtain ⟨k1, ev, k2, k3⟩ := h7.ev
              exact ⟨k1, ev, (World.cell?_of_block (a := ⟨3, 0, none⟩) (hoth _ (by show 3 ≠ N; omega) (by show 3 ≠ w.heap.size; omega))).trans k2, k3⟩
            rw [← hW9]
            refine bodyPost_ret (results_cell_row rfl _ _ w.heap.size 72 #[.string s, .int .i64 (nm.2 : Int), .slice av n cv, .pointer (some ⟨q, 0, none⟩)] (0, 0) _ rfl (by exact hrow) Tryz.underlying72 rfl (by kernel_rfl)) rfl ?_
            have hr3 := HR5.out
            subst hr3
            refine ⟨hfr, _, rfl, ⟨av, cv, q, by rw [HS.out, HN.out], fun i y hy => ?_, ?_⟩, hrd⟩
            · obtain ⟨g, k1, k2, k3, k4⟩ := HNM5.out i y hy
              obtain ⟨k5, k6⟩ := HAV.out g k1 (fun e => by rw [e] at hy; simp at hy)
              have k7 := hoth g (by omega) (by omega)
              exact ⟨g, k1, by omega, (World.cell?_of_block (a := ⟨g, i * 2, none⟩) k7).trans k3, (World.cell?_of_block (a := ⟨g, i * 2 + 1, none⟩) k7).trans k4⟩
            · have k1 := HN4.out
              refine PT.mono (PT.keep (fun b k2 _ => hoth b (by omega) (by omega)) _ _ HVx.out) ?_
              omega

end Go.Proofs.YtmmgkdcojkmlcaaGreatDoor
