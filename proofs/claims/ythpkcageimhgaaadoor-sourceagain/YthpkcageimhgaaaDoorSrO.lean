/- Package source: expressions in brackets, read. -/
import Derived.Test.YthpkcageimhgaaaDoorSqAF
namespace Go.Proofs.YthpkcageimhgaaaDoor
open Go.RowKit

/-- what is left to read behind some expressions -/
def ArgR (T : ByteArray) (f l : Nat) (r : Res (List Tr)) (ts : List Tr) (a : Nat) : Prop :=
  (ts = [] ∧ r = (pTake (by' T) 11 a).bind fun _ a4 => .ok [] a4) ∨ (ts ≠ [] ∧ ∃ g, g ≤ f ∧ r = (pArgs (by' T) g ts a l).bind fun xs a3 => (pTake (by' T) 11 a3).bind fun _ a4 => .ok xs a4)

theorem Res.three {α : Type} (r : Res α) : (∃ x j, r = .ok x j) ∨ (∃ e a, r = .bad e a) ∨ r = .out := by
  cases r with
  | ok x j => exact .inl ⟨x, j, rfl⟩
  | bad e a => exact .inr (.inl ⟨e, a, rfl⟩)
  | out => exact .inr (.inr rfl)

set_option maxRecDepth 100000 in
set_option maxHeartbeats 4000000 in
theorem listX (R : Nat) (T : ByteArray) (f j l : Nat) (w : World) (hE : ∀ g, g ≤ f → EC R T g) (hR : RdAt w R T j l) (hl : l ≤ 64) (r : Res (List Tr)) (hr : r = pList (by' T) (f + 1) j l) (hro : r ≠ .out) :
    Calls Tryd.prog 84 #[.pointer (some ⟨R, 0, none⟩), .func (.func 40) #[.pointer (some ⟨R, 0, none⟩)] #[]] w (Rx w R T l l (VL w.heap.size) r) := by
  have HT := hid (enterX R T j l 10 w hR hl)
  have hlt := hR.lt
  have HSM := hid hR.small
  have HE := hid hE
  rw [pList] at hr
  have HR := hid hr
  have HRO := hid hro
  obtain ⟨i0, hi, hz0, hz1, hz2⟩ := info_parts (show (Tryd.prog.info? 38).map (fun i => (i.zero, i.size, i.bytes)) = some (some (.pointer none), 1, 8) by kernel_rfl)
  have HI := hid (And.intro hi (And.intro hz0 (And.intro hz1 hz2)))
  clear hR hr hro hE hi hz0 hz1 hz2
  go_enter_defers Tryd.func84, Tryd.ntmps84
  go_wp2_with fail
  refine HT.out.mono ?_
  intro e w0 he
  cases hp : pEnter (by' T) 10 j l with
  | out => exact absurd hp pEnter_out
  | bad er at' =>
    rw [hp] at he
    obtain ⟨h1, rfl, h2⟩ := he
    have hr2 := HR.out
    rw [hp] at hr2
    subst hr2
    exact ⟨h1, rfl, h2⟩
  | ok u a0 =>
    rw [hp] at he
    obtain ⟨h1, v, rfl, rfl, h2⟩ := he
    have hl64 : l + 1 ≤ 64 := by have := (pEnter_ok hp).2.2; omega
    have hr2 := HR.out
    rw [hp] at hr2
    simp only [Res.bind] at hr2
    have HF0 := hid h1
    have HD0 := hid h2
    have HR0 := hid hr2
    have c1 : w0.cell? ⟨R, 1, none⟩ = some (.int .i64 ((tok (by' T) a0).kind : Int)) := by simp [World.cell?, h2.h]
    clear h1 h2 hp HT HR hr2
    obtain ⟨kd, hkd⟩ : ∃ kd, (tok (by' T) a0).kind = kd := ⟨_, rfl⟩
    have HKD := hid hkd
    rw [hkd] at c1
    clear hkd
    by_cases h11 : kd = 11
    case' pos =>
      have q : ((kd : Int) != 11) = false := by rw [h11]; rfl
      have hr2 := HR0.out
      rw [if_pos (HKD.out.trans h11)] at hr2
      have HAr : Hid (ArgR T f (l + 1) r [] a0) := .inl ⟨rfl, hr2⟩
      clear hr2 h11
      go_wp2_with fail
      obtain ⟨wA, hwA⟩ : ∃ wA, wA = w0 := ⟨_, rfl⟩
      obtain ⟨vA, hvA⟩ : ∃ vA : Value, vA = .slice none 0 0 := ⟨_, rfl⟩
      obtain ⟨tsA, htA⟩ : ∃ tsA : List Tr, tsA = [] := ⟨_, rfl⟩
      obtain ⟨aA, haA⟩ : ∃ aA, aA = a0 := ⟨_, rfl⟩
      have HRow : Hid (RowT w.heap.size wA vA tsA) := by rw [hwA, hvA, htA]; exact RowT.nil _ _
      have HLn : Hid (tsA.length ≤ aA) := by rw [htA]; exact Nat.zero_le _
      rw [← hwA, ← haA] at HD0
      rw [← hwA] at HF0
      rw [← htA, ← haA] at HAr
      rw [← hwA, ← hvA]
      have HFa := HF0
      have HDa := HD0
      clear hwA hvA htA haA HF0 HD0 HR0 q c1
    case' neg =>
      have q : ((kd : Int) != 11) = true := by simp; omega
      have hr2 := HR0.out
      rw [if_neg (fun e => h11 (HKD.out.symm.trans e))] at hr2
      have hne : pExpr (by' T) f a0 (l + 1) ≠ .out := fun e => by rw [e] at hr2; exact HRO.out hr2
      have HC := hid (HE.out f (Nat.le_refl _) a0 (l + 1) w0 HD0.out hl64 hne)
      have HR1 := hid hr2
      have hfx := (p_fx (by' T) f).1 a0 (l + 1) (by rw [by_len]; exact HD0.out.le)
      have HFX := hid hfx
      clear hr2 h11 hfx
      go_wp2_with fail
      refine HC.out.mono ?_
      intro e w1 he
      have hr2 := HR1.out
      rcases Res.three (pExpr (by' T) f a0 (l + 1)) with ⟨x, a1, ht⟩ | ⟨er, at', ht⟩ | ht
      rotate_left
      · rw [ht] at he hr2
        obtain ⟨h5, rfl, j3, h6⟩ := he
        (try simp only at hr2)
        subst hr2
        refine leave_pnc h6 hl ?_
        exact ⟨(HF0.out.trans h5).set 4 _, rfl, j3, h6.level l⟩
      · exact absurd ht hne
      rw [ht] at he hr2
      obtain ⟨h5, v, rfl, hv, h6⟩ := he
      obtain ⟨qx, rfl⟩ := hv.form
      (try simp only at hr2)
      have hfx := HFX.out
      rw [ht] at hfx
      have hF1 := HF0.out.trans h5
      have HAr : Hid (ArgR T f (l + 1) r [x] a1) := .inr ⟨by simp, f, Nat.le_refl _, hr2⟩
      have HLn : Hid ([x].length ≤ a1) := by have := hfx.1; show 1 ≤ a1; omega
      have hs0 := HF0.out.size
      have hs1 := hF1.size
      have HF1 := hid hF1
      have HD1 := hid h6
      have HV := hid (PTB.keep (B' := fun b => w.heap.size ≤ b ∧ some b ≠ (Value.slice none 0 0).ownBlock) (fun b hB _ => ⟨⟨by omega, by simp [Value.ownBlock]⟩, rfl⟩) _ _ hv : PTB (fun b => w.heap.size ≤ b ∧ some b ≠ (Value.slice none 0 0).ownBlock) w1 x (.pointer (some ⟨qx, 0, none⟩)))
      clear hv HC hne h5 h6 hr2 ht hfx HFX HF0 HD0 HR0 HR1 q c1 hF1
      go_wp2_with (at_builtin; refine wpList_append_own_at _ rfl _ _ 82 rfl w.heap.size 38 i0 (.pointer none) 1 8 Tryd.underlying82 HI.out.1 HI.out.2.1 HI.out.2.2.1 HI.out.2.2.2 rfl (by decide) (.slice none 0 0) 0 [] rfl (World.ownsRow_nil _ _ _ _) ⟨w1.heap.size, 0, none⟩ 1 1 [.pointer (some ⟨qx, 0, none⟩)] rfl rfl (cell_one_new _ _ _) (by simp [Value.oneCell']) (by simp [maxLen]) (by omega) (by simp; omega) ?_; intro v' w2 hown2 hgrow _ hwhere)
      have hbA : Below w1.heap.size w1 (w1.alloc (.cells #[.pointer (some ⟨qx, 0, none⟩)] 38)) := (Below.refl _ _).alloc (Nat.le_refl _) _
      have HRow : Hid (RowT w.heap.size w2 v' [x]) := RowT.push (ts := []) (World.ownsRow_nil _ _ _ _) (fun i t ht => by simp at ht) (PTB.keep (fun b hB hl => ⟨hB, hbA.block b hl⟩) _ _ HV.out) hown2 hgrow hwhere
      have hfr2 : Fr R w w2 := (HF1.out.more hbA hlt).grown hgrow (fun k e => by simp [Value.ownBlock] at e) hlt
      have hrd2 : RdAt w2 R T a1 (l + 1) := by
        have h7 := HD1.out.below hbA
        exact ⟨(hgrow.block R h7.lt (by simp [Value.ownBlock])).trans h7.h, h7.le, h7.small, by
          obtain ⟨k1, ev, k2, k3⟩ := h7.ev
          exact ⟨k1, ev, hgrow.cell k2 (by simp [Value.ownBlock]), k3⟩⟩
      have HFa := hid hfr2
      have HDa := hid hrd2
      obtain ⟨tsA, htA⟩ : ∃ tsA : List Tr, tsA = [x] := ⟨_, rfl⟩
      rw [← htA] at HRow HLn HAr
      clear hbA hown2 hgrow hwhere hfr2 hrd2 htA HF1 HD1 HV hs0 hs1
    all_goals
      go_loopw [5] (fun v wr => ∃ (ts : List Tr) (a : Nat), Hid (Fr R w wr) ∧ Hid (RdAt wr R T a (l + 1)) ∧ Hid (RowT w.heap.size wr v ts) ∧ Hid (ts.length ≤ a) ∧ Hid (ArgR T f (l + 1) r ts a)) (fun _ wr => T.size + 1 - rdm R wr)
      case atStart => exact ⟨_, _, HFa, HDa, HRow, HLn, HAr⟩
      case round =>
        obtain ⟨ts, a, hF, hD, hRw, hLn, hAr⟩ := hrel
        obtain ⟨av, cv, rfl⟩ := hRw.out.form
        have c1 : wr.cell? ⟨R, 1, none⟩ = some (.int .i64 ((tok (by' T) a).kind : Int)) := by simp [World.cell?, hD.out.h]
        clear HFa HDa HRow HLn HAr
        have HRD := hid hD.out.rdm
        have HTA := hid (tok_at (by' T) a (by rw [by_len]; exact hD.out.le))
        obtain ⟨ka, hka⟩ : ∃ ka, (tok (by' T) a).kind = ka := ⟨_, rfl⟩
        rw [hka] at c1
        have HKA := hid hka
        obtain ⟨n, hn⟩ : ∃ n, ts.length = n := ⟨_, rfl⟩
        have HN := hid hn
        rw [hn] at hRw ⊢
        by_cases hc : ts ≠ [] ∧ ka = 12
        · have hnp : 0 < n := by rw [← hn]; exact List.length_pos_iff.2 hc.1
          have hnp2 : (0 : Int) < (n : Int) := by omega
          have q12 : ((ka : Int) == 12) = true := by rw [hc.2]; rfl
          have HT := hid (take_yes R T a (l + 1) 12 wr hD.out (hka.trans hc.2))
          have hgx : ∃ g, g + 1 ≤ f ∧ r = ((pExpr (by' T) g (tok (by' T) a).nx (l + 1)).bind fun x j => pArgs (by' T) g (ts ++ [x]) j (l + 1)).bind fun xs a3 => (pTake (by' T) 11 a3).bind fun _ a4 => .ok xs a4 := by
            rcases hAr.out with ⟨h0, _⟩ | ⟨_, g, hg, hr2⟩
            · exact absurd h0 hc.1
            · cases g with
              | zero => rw [pArgs] at hr2; exact absurd hr2 HRO.out
              | succ g => exact ⟨g, hg, by rw [pArgs, if_pos (hka.trans hc.2)] at hr2; exact hr2⟩
          obtain ⟨g, hgf, hr2⟩ := hgx
          have HG := hid hgf
          have HR1 := hid hr2
          have hnxx : (tok (by' T) a).at' + 1 ≤ (tok (by' T) a).nx := HTA.out.2.2.2.1 (by rw [hka, hc.2]; decide)
          have HNX := hid hnxx
          have HDL := hid hD.out.le
          clear hc hka hn hr2 hgf hnp hnxx
          generalize (tok (by' T) a).nx = nx at *
          generalize tokv (tok (by' T) a) = tv at *
          go_wp2_with fail
          refine HT.out.mono ?_
          rintro e w3 ⟨rfl, h3, h4⟩
          have HF3 := hid (hF.out.trans h3)
          have HD3 := hid h4
          have HRw3 := hid (hRw.out.fr h3 hlt)
          have hne : pExpr (by' T) g nx (l + 1) ≠ .out := fun e => by have hr2 := HR1.out; rw [e] at hr2; exact HRO.out hr2
          have HC := hid (HE.out g (by have := HG.out; omega) nx (l + 1) w3 h4 hl64 hne)
          have HFX := hid ((p_fx (by' T) g).1 nx (l + 1) (by rw [by_len]; exact h4.le))
          clear h3 h4 HT c1 q12 hF hD hRw
          go_wp2_with fail
          refine HC.out.mono ?_
          intro e w4 he
          have hr2 := HR1.out
          rcases Res.three (pExpr (by' T) g nx (l + 1)) with ⟨x, a1, ht⟩ | ⟨er, at', ht⟩ | ht
          · rw [ht] at he hr2
            obtain ⟨h5, v, rfl, hv, h6⟩ := he
            obtain ⟨qx, rfl⟩ := hv.form
            (try simp only [Res.bind] at hr2)
            have hfx := HFX.out
            rw [ht] at hfx
            have hF4 := HF3.out.trans h5
            have hRw4 := HRw3.out.fr h5 hlt
            obtain ⟨vals, hown4, hel4⟩ := hRw4
            have hbA : Below w4.heap.size w4 (w4.alloc (.cells #[.pointer (some ⟨qx, 0, none⟩)] 38)) := (Below.refl _ _).alloc (Nat.le_refl _) _
            have hown3 := HRw3.out
            have hgl : ∀ k, (Value.slice av n cv).ownBlock = some k → w.heap.size ≤ k ∧ k < w3.heap.size := fun k e => by
              obtain ⟨vals3, h7, _⟩ := hown3
              exact h7.lt k e
            have hB : PTB (fun b => w.heap.size ≤ b ∧ some b ≠ (Value.slice av n cv).ownBlock) w4 x (.pointer (some ⟨qx, 0, none⟩)) := PTB.keep (fun b hb _ => by
              have hb' : w3.heap.size ≤ b := hb
              have hs3 := HF3.out.size
              exact ⟨⟨by omega, fun e => by have := hgl b e.symm; omega⟩, rfl⟩) _ _ hv
            have HB4 := hid (PTB.keep (B' := fun b => w.heap.size ≤ b ∧ some b ≠ (Value.slice av n cv).ownBlock) (fun b hB2 hl2 => ⟨hB2, hbA.block b hl2⟩) _ _ hB : PTB (fun b => w.heap.size ≤ b ∧ some b ≠ (Value.slice av n cv).ownBlock) (w4.alloc (.cells #[.pointer (some ⟨qx, 0, none⟩)] 38)) x (.pointer (some ⟨qx, 0, none⟩)))
            have hownA := hown4.alloc (.cells #[.pointer (some ⟨qx, 0, none⟩)] 38)
            have hAr2 : ArgR T f (l + 1) r (ts ++ [x]) a1 := .inr ⟨by simp, g, by have := HG.out; omega, hr2⟩
            have hLn2 : (ts ++ [x]).length ≤ a1 := by
              have h7 := hLn.out
              have h8 := HTA.out.1
              have h9 := hfx.1
              have h10 := HNX.out
              rw [List.length_append]
              show ts.length + 1 ≤ a1
              omega
            have hn4 : n ≤ 4000 := by
              have h7 := hLn.out
              have h8 := HSM.out
              have h9 := HDL.out
              have h10 := HN.out
              omega
            have hs4 := hF4.size
            have HOWN := hid hownA
            have HEL := hid hel4
            have HAr2 := hid hAr2
            have HLn2 := hid hLn2
            have HF4 := hid hF4
            have HD4 := hid h6
            have HGL := hid hgl
            have HN4 := hid hn4
            have HS4 := hid hs4
            have hln : ts.length = n := HN.out
            rw [hln] at HOWN
            have HFX2 := hid hfx
            clear hB hownA hown4 hel4 hAr2 hLn2 hF4 h6 hgl hn4 hs4 hown3 hbA hv h5 hr2 ht hfx HC hne HF3 HD3 HRw3 hln
            go_wp2_with (at_builtin; refine wpList_append_own_at _ rfl _ _ 82 rfl w.heap.size 38 i0 (.pointer none) 1 8 Tryd.underlying82 HI.out.1 HI.out.2.1 HI.out.2.2.1 HI.out.2.2.2 rfl (by decide) (.slice av n cv) n vals rfl HOWN.out ⟨w4.heap.size, 0, none⟩ 1 1 [.pointer (some ⟨qx, 0, none⟩)] rfl rfl (cell_one_new _ _ _) (by simp [Value.oneCell']) (by have := HN4.out; unfold maxLen; omega) (by have := HN4.out; omega) (by have := HS4.out; simp; omega) ?_; intro v' w5 hown2 hgrow _ hwhere)
            have hbA : Below w4.heap.size w4 (w4.alloc (.cells #[.pointer (some ⟨qx, 0, none⟩)] 38)) := (Below.refl _ _).alloc (Nat.le_refl _) _
            have hnR : some R ≠ (Value.slice av n cv).ownBlock := fun e => by have := (HGL.out R e.symm).1; omega
            have hln : ts.length = n := HN.out
            have hown2' := hown2
            rw [← hln] at hown2'
            have HRow2 : Hid (RowT w.heap.size w5 v' (ts ++ [x])) := RowT.push (by rw [hln]; exact HOWN.out) (fun i t ht => by
              obtain ⟨u, k1, k2⟩ := HEL.out i t ht
              exact ⟨u, k1, PTB.keep (fun b hB2 hl2 => ⟨hB2, hbA.block b hl2⟩) _ _ k2⟩) HB4.out hown2' hgrow hwhere
            have hfr5 : Fr R w w5 := (HF4.out.more hbA hlt).grown hgrow (fun k e => (HGL.out k e).1) hlt
            have hrd5 : RdAt w5 R T a1 (l + 1) := by
              have h7 := HD4.out.below hbA
              exact ⟨(hgrow.block R h7.lt hnR).trans h7.h, h7.le, h7.small, by
                obtain ⟨k1, ev, k2, k3⟩ := h7.ev
                exact ⟨k1, ev, hgrow.cell k2 (fun e => by have := (HGL.out _ e.symm).1; simp at this; omega), k3⟩⟩
            have HFa := hid hfr5
            have HDa := hid hrd5
            have hm : T.size + 1 - rdm R w5 < T.size + 1 - rdm R wr := by
              rw [hrd5.rdm, HRD.out]
              have k1 := tok_at (by' T) a1 (by rw [by_len]; exact hrd5.le)
              rw [by_len] at k1
              have k2 := HTA.out
              have k3 := HFX2.out.1
              have k4 := HNX.out
              omega
            have HM := hid hm
            clear hbA hnR hln hown2' hown2 hgrow hwhere hfr5 hrd5 hm
            go_roundw
            case rel => exact ⟨ts ++ [x], a1, HFa, HDa, HRow2, HLn2, HAr2⟩
            case measure => exact HM.out
          · rw [ht] at he hr2
            obtain ⟨h5, rfl, j3, h6⟩ := he
            (try simp only [Res.bind] at hr2)
            subst hr2
            refine leave_pnc h6 hl ?_
            exact ⟨(HF3.out.trans h5).set 4 _, rfl, j3, h6.level l⟩
          · exact absurd ht hne
        · have hr2 : r = (pTake (by' T) 11 a).bind fun _ a4 => .ok ts a4 := by
            rcases hAr.out with ⟨h0, h1⟩ | ⟨h0, g, hg, h1⟩
            · rw [h0]; exact h1
            · cases g with
              | zero => rw [pArgs] at h1; exact absurd h1 HRO.out
              | succ g => rw [pArgs, if_neg (fun e => hc ⟨h0, hka.symm.trans e⟩)] at h1; exact h1
          have HR1 := hid hr2
          have hq : n = 0 ∨ (0 < n ∧ ((ka : Int) == 12) = false) := by
            rcases Nat.eq_zero_or_pos n with h0 | h0
            · exact .inl h0
            · refine .inr ⟨h0, ?_⟩
              have h5 : ¬ ka = 12 := fun e => hc ⟨fun e2 => by rw [e2] at hn; simp at hn; omega, e⟩
              simp
              omega
          have HT := hid (takeX R T a (l + 1) 11 wr hD.out)
          have HRV := hid hRw.out.vl
          clear hc hka hn hr2 hAr
          rcases hq with rfl | ⟨hnp, q12⟩
          case' inr => have hnp2 : (0 : Int) < (n : Int) := by omega
          all_goals
            go_wp2_with fail
            refine HT.out.mono ?_
            intro e w3 he
            have hr2 := HR1.out
            cases ht : pTake (by' T) 11 a with
            | out => exact absurd ht pTake_out
            | bad er at' =>
              rw [ht] at he hr2
              obtain ⟨h5, rfl, j3, h6⟩ := he
              (try simp only [Res.bind] at hr2)
              subst hr2
              refine leave_pnc h6 hl ?_
              exact ⟨(hF.out.trans h5).set 4 _, rfl, j3, h6.level l⟩
            | ok t3 a3 =>
              rw [ht] at he hr2
              obtain ⟨h5, v, rfl, rfl, h6⟩ := he
              (try simp only [Res.bind] at hr2)
              have HF3 := hid (hF.out.trans h5)
              have HD3 := hid h6
              have HRw3 := hid (hRw.out.fr h5 hlt)
              have HR3 := hid hr2
              clear h5 h6 hr2 ht HT
              go_wp2_with fail
              have hr3 := HR3.out
              subst hr3
              refine leave_ret HD3.out hl (results_tmp rfl _ _ _) ?_
              exact ⟨HF3.out.set 4 _, _, rfl, (HRw3.out.fr ((Fr.refl R _).set 4 _) hlt).vl, HD3.out.level l⟩

end Go.Proofs.YthpkcageimhgaaaDoor
