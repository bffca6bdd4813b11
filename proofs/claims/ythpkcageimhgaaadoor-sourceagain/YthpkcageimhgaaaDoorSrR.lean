/- Package source: an expression, and all that is read by one another. -/
import Derived.Test.YthpkcageimhgaaaDoorSqAH
namespace Go.Proofs.YthpkcageimhgaaaDoor
open Go.RowKit

set_option maxRecDepth 100000 in
set_option maxHeartbeats 1000000 in
theorem exprX (R : Nat) (T : ByteArray) (f j l : Nat) (w : World) (hE : EC R T f) (hS : SC R T f) (hR : RdAt w R T j l) (hl : l ≤ 64) (r : Res Tr) (hr : r = pExpr (by' T) (f + 1) j l) (hro : r ≠ .out) :
    Calls Tryd.prog 40 #[.pointer (some ⟨R, 0, none⟩)] w (Rx w R T l l (VX w.heap.size) r) := by
  have hmf : ∀ (fn : Go.Fn) (first cap : Array Value) (w : World), (Instr.makeFunc fn first cap).run Tryd.prog w = .ok (.func fn first cap) w := fun _ _ _ _ => rfl
  have hF : ∀ args w, (callFunc 58 args).run Tryd.prog w = .ok (.enter 58 args) w := enters_of Tryd.func58 (by kernel_rfl) rfl
  have c1 : w.cell? ⟨R, 1, none⟩ = some (.int .i64 ((tok (by' T) j).kind : Int)) := by simp [World.cell?, hR.h]
  rw [pExpr] at hr
  have HL := hid (fun h1 => letX R T f j l w hE hR hl r h1 hro)
  have HN := hid (fun h1 => needX R T f j l w hE hS hR hl r h1 hro)
  have HC := hid (fun h1 => choiceX R T f j l w hE hR hl r h1 hro)
  have HS0 := hid (fun h1 => hS j l w hR hl h1)
  have HSS := hid (fun a W h h1 => hS a l W h hl h1)
  have hlt := hR.lt
  have HFF := hid hF
  have HRO := hid hro
  obtain ⟨ka, hka⟩ : ∃ ka, (tok (by' T) j).kind = ka := ⟨_, rfl⟩
  rw [hka] at c1 hr
  have HR := hid hr
  clear hR hr hro hE hS hka hF
  by_cases h1 : ka = 5
  · have q1 : ((ka : Int) == 5) = true := by rw [h1]; rfl
    have hr2 := HR.out
    rw [if_pos h1] at hr2
    have HC1 := hid (HL.out hr2)
    clear hr2 h1 HN HL HC HS0 HSS
    go_enter Tryd.func40, Tryd.ntmps40
    go_wp2_with fail
    refine HC1.out.mono ?_
    intro e w1 he
    have HH := hid he
    cases e with
    | returned v => clear he; go_wp2_with fail; go_ret; exact HH.out
    | panicked c => exact ⟨rfl, he⟩
    | outgrown => cases r with
      | ok x a => obtain ⟨_, _, h, _⟩ := he; cases h
      | bad x a => obtain ⟨_, h, _⟩ := he; cases h
      | out => exact he.2.elim
  · have q1 : ((ka : Int) == 5) = false := by simp; omega
    by_cases h2 : ka = 6
    · have q2 : ((ka : Int) == 6) = true := by rw [h2]; rfl
      have hr2 := HR.out
      rw [if_neg h1, if_pos h2] at hr2
      have HC1 := hid (HN.out hr2)
      clear hr2 h1 h2 HN HL HC HS0 HSS
      go_enter Tryd.func40, Tryd.ntmps40
      go_wp2_with fail
      refine HC1.out.mono ?_
      intro e w1 he
      have HH := hid he
      cases e with
      | returned v => clear he; go_wp2_with fail; go_ret; exact HH.out
      | panicked c => exact ⟨rfl, he⟩
      | outgrown => cases r with
        | ok x a => obtain ⟨_, _, h, _⟩ := he; cases h
        | bad x a => obtain ⟨_, h, _⟩ := he; cases h
        | out => exact he.2.elim
    · have q2 : ((ka : Int) == 6) = false := by simp; omega
      by_cases h3 : ka = 7
      · have q3 : ((ka : Int) == 7) = true := by rw [h3]; rfl
        have hr2 := HR.out
        rw [if_neg h1, if_neg h2, if_pos h3] at hr2
        have HC1 := hid (HC.out hr2)
        clear hr2 h1 h2 h3 HN HL HC HS0 HSS
        go_enter Tryd.func40, Tryd.ntmps40
        go_wp2_with fail
        refine HC1.out.mono ?_
        intro e w1 he
        have HH := hid he
        cases e with
        | returned v => clear he; go_wp2_with fail; go_ret; exact HH.out
        | panicked c => exact ⟨rfl, he⟩
        | outgrown => cases r with
          | ok x a => obtain ⟨_, _, h, _⟩ := he; cases h
          | bad x a => obtain ⟨_, h, _⟩ := he; cases h
          | out => exact he.2.elim
      · have q3 : ((ka : Int) == 7) = false := by simp; omega
        have hr2 := HR.out
        rw [if_neg h1, if_neg h2, if_neg h3] at hr2
        have hne : pSum (by' T) f j l ≠ .out := fun e => by rw [e] at hr2; exact HRO.out hr2
        have HC1 := hid (HS0.out hne)
        have HR1 := hid hr2
        clear hr2 h1 h2 h3 HN HL HC HS0 HR
        go_enter Tryd.func40, Tryd.ntmps40
        go_wp2_with fail
        refine HC1.out.mono ?_
        intro e w1 he
        have hr2 := HR1.out
        cases ht : pSum (by' T) f j l with
        | out => exact absurd ht hne
        | bad er at' =>
          rw [ht] at he hr2
          obtain ⟨h5, rfl, h6⟩ := he
          simp only [Res.bind] at hr2
          subst hr2
          exact ⟨rfl, h5, rfl, h6⟩
        | ok x a1 =>
          rw [ht] at he hr2
          obtain ⟨h5, v, rfl, hv, h6⟩ := he
          obtain ⟨q, rfl⟩ := hv.form
          simp only [Res.bind] at hr2
          have HF1 := hid h5
          have HD1 := hid h6
          have HV1 : Hid (PT w.heap.size w1 x (.pointer (some ⟨q, 0, none⟩))) := hv
          have d1 : w1.cell? ⟨R, 1, none⟩ = some (.int .i64 ((tok (by' T) a1).kind : Int)) := by simp [World.cell?, h6.h]
          obtain ⟨kb, hkb⟩ : ∃ kb, (tok (by' T) a1).kind = kb := ⟨_, rfl⟩
          rw [hkb] at d1 hr2
          clear hv h5 h6 ht hne HC1 HR1 hkb c1 q1 q2 q3
          by_cases h15 : kb = 15
          · rw [if_pos h15] at hr2
            have q4 : ((kb : Int) == 15) = true := by rw [h15]; rfl
            have hne : pSum (by' T) f (tok (by' T) a1).nx l ≠ .out := fun e => by rw [e] at hr2; exact HRO.out hr2
            have HC2 := hid (pairX w.heap.size 58 HFF.out R T a1 l 8 x _ w1 _ HD1.out HV1.out hlt HF1.out.size hne (fun W h => HSS.out _ W h hne))
            have hr4 : r = (pSum (by' T) f (tok (by' T) a1).nx l).bind fun y a => .ok (.node 8 [] 0 0 [x, y]) a := hr2
            rw [← hr4] at HC2
            clear hr2 hr4 h15 hne HSS
            go_wp2_with fail
            refine HC2.out.mono ?_
            intro e w2 he
            have h7 := he.1
            have HH : Hid (Rx w R T l l (VX w.heap.size) r e w2) := ⟨HF1.out.trans h7, he.2⟩
            cases e with
            | returned v => clear he h7; go_wp2_with fail; go_ret; exact HH.out
            | panicked c => exact ⟨rfl, HH.out⟩
            | outgrown => cases r with
              | ok x a => obtain ⟨_, _, h, _⟩ := he; cases h
              | bad x a => obtain ⟨_, h, _⟩ := he; cases h
              | out => exact he.2.elim
          · rw [if_neg h15] at hr2
            have q4 : ((kb : Int) == 15) = false := by simp; omega
            have HR2 := hid hr2
            clear hr2 h15 HSS
            go_wp2_with fail
            go_ret
            have hr3 := HR2.out
            subst hr3
            exact ⟨HF1.out, _, rfl, HV1.out, HD1.out⟩

def LC (R : Nat) (T : ByteArray) (f : Nat) : Prop := ∀ a l W (r : Res (List Tr)), l ≤ 64 → RdAt W R T a l → r = pList (by' T) f a l → r ≠ .out → Calls Tryd.prog 84 #[.pointer (some ⟨R, 0, none⟩), .func (.func 40) #[.pointer (some ⟨R, 0, none⟩)] #[]] W (Rx W R T l l (VL W.heap.size) r)
/-- all of them, with any fuel -/
theorem read_all (R : Nat) (T : ByteArray) : ∀ f g, g ≤ f → EC R T g ∧ SC R T g ∧ PC R T g ∧ XC R T g ∧ LC R T g
  | 0, g, hg => by
    obtain rfl : g = 0 := by omega
    refine ⟨?_, ?_, ?_, ?_, ?_⟩
    · intro a l w _ _ h; rw [pExpr] at h; exact absurd rfl h
    · intro a l w _ _ h; rw [pSum] at h; exact absurd rfl h
    · intro a l w _ _ h; rw [pProd] at h; exact absurd rfl h
    · intro a l w _ _ h; rw [pPart] at h; exact absurd rfl h
    · intro a l w r _ _ h h2; rw [pList] at h; exact absurd h h2
  | f + 1, g, hg => by
    have ih := read_all R T f
    rcases Nat.lt_or_ge f g with h | h
    · obtain rfl : g = f + 1 := by omega
      have i0 := ih f (Nat.le_refl _)
      refine ⟨?_, ?_, ?_, ?_, ?_⟩
      · intro a l w h1 h2 h3; exact exprX R T f a l w i0.1 i0.2.1 h1 h2 _ rfl h3
      · intro a l w h1 h2 h3; exact sumX R T f a l w (fun g hg => (ih g hg).2.2.1) h1 h2 _ rfl h3
      · intro a l w h1 h2 h3; exact productX R T f a l w (fun g hg => (ih g hg).2.2.2.1) h1 h2 _ rfl h3
      · intro a l w h1 h2 h3; exact partX R T f a l w i0.1 i0.2.2.2.1 (fun a W r => i0.2.2.2.2 a l W r h2) h1 h2 _ rfl h3
      · intro a l w r h1 h2 h3 h4; exact listX R T f a l w (fun g hg => (ih g hg).1) h2 h1 r h3 h4
    · exact ih g h

end Go.Proofs.YthpkcageimhgaaaDoor
