/- Package source: a name, or a call. Package source: a part, an expression; all that is read. -/
import Derived.Test.YthpkcageimhgaaaDoorSrO
import Derived.Test.YthpkcageimhgaaaDoorSqAE
import Derived.Test.YthpkcageimhgaaaDoorSqAG
namespace Go.Proofs.YthpkcageimhgaaaDoor
open Go.RowKit

set_option maxRecDepth 100000 in
set_option maxHeartbeats 2000000 in
theorem namedX (R : Nat) (T : ByteArray) (f j l : Nat) (w : World) (hL : ∀ a W (r : Res (List Tr)), RdAt W R T a l → r = pList (by' T) f a l → r ≠ .out → Calls Tryd.prog 84 #[.pointer (some ⟨R, 0, none⟩), .func (.func 40) #[.pointer (some ⟨R, 0, none⟩)] #[]] W (Rx W R T l l (VL W.heap.size) r)) (hR : RdAt w R T j l) (r : Res Tr)
    (hr : r = (pName (by' T) j).bind fun nm a1 => if (tok (by' T) a1).kind = 10 then (pList (by' T) f a1 l).bind fun xs a5 => .ok (.node 2 nm.1 nm.2 0 xs) a5 else .ok (.node 1 nm.1 nm.2 0 []) a1) (hro : r ≠ .out) :
    Calls Tryd.prog 78 #[.pointer (some ⟨R, 0, none⟩)] w (Rx w R T l l (VX w.heap.size) r) := by
  have hmf : ∀ (fn : Go.Fn) (first cap : Array Value) (w : World), (Instr.makeFunc fn first cap).run Tryd.prog w = .ok (.func fn first cap) w := fun _ _ _ _ => rfl
  have HT := hid (nameX R T j l w hR)
  have hlt := hR.lt
  have HL := hid hL
  have HR := hid hr
  have HRO := hid hro
  clear hR hr hro hL
  go_enter Tryd.func78, Tryd.ntmps78
  go_wp2_with fail
  refine HT.out.mono ?_
  intro e w1 he
  have hr2 := HR.out
  cases ht : pName (by' T) j with
  | out => exact absurd ht pName_out
  | bad er at' =>
    rw [ht] at he hr2
    obtain ⟨h5, rfl, h6⟩ := he
    simp only [Res.bind] at hr2
    subst hr2
    exact ⟨rfl, h5, rfl, h6⟩
  | ok nm a1 =>
    rw [ht] at he hr2
    obtain ⟨h5, v, rfl, rfl, h6⟩ := he
    simp only [Res.bind] at hr2
    have hbN : Below w1.heap.size w1 (w1.alloc (.cells #[.string (bs nm.1), .int .i64 (nm.2 : Int)] 36)) := (Below.refl _ _).alloc (Nat.le_refl _) _
    have HF1 := hid (h5.more hbN hlt)
    have HD1 := hid (h6.below hbN)
    have HR1 := hid hr2
    have hn1 : (w1.alloc (.cells #[.string (bs nm.1), .int .i64 (nm.2 : Int)] 36)).heap[w1.heap.size]? = some (.cells #[.string (bs nm.1), .int .i64 (nm.2 : Int)] 36 (0, 0)) := heap_alloc_new w1 _
    obtain ⟨N, hN⟩ : ∃ N, N = w1.heap.size := ⟨_, rfl⟩
    have hNR : N ≠ R := by have := h6.lt; omega
    obtain ⟨W1, hW1⟩ : ∃ W1, W1 = w1.alloc (.cells #[.string (bs nm.1), .int .i64 (nm.2 : Int)] 36) := ⟨_, rfl⟩
    rw [← hW1] at HF1 HD1 hn1
    rw [← hN] at hn1
    obtain ⟨s, hs⟩ : ∃ s, s = bs nm.1 := ⟨_, rfl⟩
    have HS := hid hs
    rw [← hs] at hW1 hn1
    have HN1 := hid hn1
    have HNR := hid hNR
    clear h5 h6 hr2 ht HT hbN hNR HR
    have c1 : W1.cell? ⟨R, 1, none⟩ = some (.int .i64 ((tok (by' T) a1).kind : Int)) := by simp [World.cell?, HD1.out.h]
    have n0 : W1.cell? ⟨N, 0, none⟩ = some (.string s) := by simp [World.cell?, hn1]
    have n1 : W1.cell? ⟨N, 1, none⟩ = some (.int .i64 (nm.2 : Int)) := by simp [World.cell?, hn1]
    obtain ⟨ka, hka⟩ : ∃ ka, (tok (by' T) a1).kind = ka := ⟨_, rfl⟩
    rw [hka] at c1
    have HKA := hid hka
    unfold namv
    rw [← hs]
    clear hs hka hn1
    replace hW1 := hW1.symm
    replace hN := hN.symm
    have hr2 := HR1.out
    by_cases h10 : ka = 10
    · have q1 : ((ka : Int) == 10) = true := by rw [h10]; rfl
      rw [if_pos (HKA.out.trans h10)] at hr2
      have hne : pList (by' T) f a1 l ≠ .out := fun e => by rw [e] at hr2; exact HRO.out hr2
      have HC := hid (HL.out a1 W1.drew _ HD1.out.drew rfl hne)
      have HR2 := hid hr2
      have hc0 : W1.drew.cell? ⟨N, 0, none⟩ = some (.string s) ∧ W1.drew.cell? ⟨N, 1, none⟩ = some (.int .i64 (nm.2 : Int)) := ⟨n0, n1⟩
      clear hr2 h10 HR1
      go_wp2_with fail
      clear hW1 hN n0 n1 c1
      refine wp_region_held_drew (S := (fun W => W.cell? ⟨N, 0, none⟩ = some (.string s) ∧ W.cell? ⟨N, 1, none⟩ = some (.int .i64 (nm.2 : Int)))) (by kernel_rfl) hc0 (fun hHeld => ?_)
      refine wpAnyH_takeS (i := 0) (v := .agg #[.string s, .int .i64 (nm.2 : Int)]) rfl (by kernel_rfl) (by kernel_rfl) (by kernel_rfl) (fun _ _ _ h => h) (by rfl) (fun W hC => by (obtain ⟨k0, k1⟩ := hC); go_simp) hHeld ?_
      simp only [Act.put, List.setIfInBounds_toArray, List.set_cons_zero, List.set_cons_succ]
      refine wpAnyH_takeS (i := 1) (v := .pointer (some ⟨R, 0, none⟩)) rfl (by kernel_rfl) (by kernel_rfl) (by kernel_rfl) (fun _ _ _ h => h) (by rfl) (fun W hC => by go_simp) hHeld ?_
      simp only [Act.put, List.setIfInBounds_toArray, List.set_cons_zero, List.set_cons_succ]
      refine wpAnyH_takeS (i := 2) (v := .pointer (some ⟨R, 0, none⟩)) rfl (by kernel_rfl) (by kernel_rfl) (by kernel_rfl) (fun _ _ _ h => h) (by rfl) (fun W hC => by go_simp) hHeld ?_
      simp only [Act.put, List.setIfInBounds_toArray, List.set_cons_zero, List.set_cons_succ]
      refine wpAnyH_ready (rs := [3]) (by kernel_rfl) (by simp) ?_
      refine AllReadyH.consS rfl (fun K hK => ?_) AllReadyH.nil
      go_simp
      refine hK.out _ _ hc0 (fun hHeld => ?_)
      clear hK K hHeld
      refine wpAnyH_ready (rs := [4]) (by kernel_rfl) (by simp) ?_
      refine AllReadyH.consS rfl (fun K hK => ?_) AllReadyH.nil
      go_simp
      refine HC.out.mono ?_
      intro e w5 he
      have hr2 := HR2.out
      cases ht : pList (by' T) f a1 l with
      | out => exact absurd ht hne
      | bad er at' =>
        rw [ht] at he hr2
        obtain ⟨h5, rfl, h6⟩ := he
        (try simp only at hr2)
        subst hr2
        exact ⟨rfl, HF1.out.drew.trans h5, rfl, h6⟩
      | ok xs a5 =>
        rw [ht] at he hr2
        obtain ⟨h5, v, rfl, ⟨av, cv, rfl, hps⟩, h6⟩ := he
        (try simp only at hr2)
        have HF5 := hid (HF1.out.drew.trans h5)
        have HD5 := hid h6
        have HR5 := hid hr2
        have HPS := hid hps
        have hn5 : w5.heap[N]? = some (.cells #[.string s, .int .i64 (nm.2 : Int)] 36 (0, 0)) := (h5.2 N (Array.getElem?_eq_some_iff.1 HN1.out).1 HNR.out).trans HN1.out
        have hc5 : w5.cell? ⟨N, 0, none⟩ = some (.string s) ∧ w5.cell? ⟨N, 1, none⟩ = some (.int .i64 (nm.2 : Int)) := ⟨by simp [World.cell?, hn5], by simp [World.cell?, hn5]⟩
        have hlN : N < w5.heap.size := (Array.getElem?_eq_some_iff.1 hn5).1
        have HKB : Hid (∀ W, Below w5.heap.size w5 W → W.cell? ⟨N, 0, none⟩ = some (.string s) ∧ W.cell? ⟨N, 1, none⟩ = some (.int .i64 (nm.2 : Int))) := fun W h => ⟨(h.cell (p := ⟨N, 0, none⟩) hlN).trans hc5.1, (h.cell (p := ⟨N, 1, none⟩) hlN).trans hc5.2⟩
        clear hps hr2 ht h5 h6
        obtain ⟨n, hn⟩ : ∃ n, n = xs.length := ⟨_, rfl⟩
        have HN := hid hn
        rw [← hn]
        clear hn
        refine hK.out _ _ hc5 (fun hHeld => ?_)
        clear hK K hHeld
        refine wpAnyH_ready (rs := [5]) (by kernel_rfl) (by simp) ?_
        refine AllReadyH.consS rfl (fun K hK => ?_) AllReadyH.nil
        go_simp
        refine hK.out _ _ hc5 (fun hHeld => ?_)
        clear hK K hHeld
        refine wpAnyH_ready (rs := [6]) (by kernel_rfl) (by simp) ?_
        refine AllReadyH.consS rfl (fun K hK => ?_) AllReadyH.nil
        go_simp
        have hb5 : Below w5.heap.size w5 (w5.alloc (.cells #[.int .i64 2, .string s, .int .i64 (nm.2 : Int), .int .i64 0, .slice av n cv] 84)) := (Below.refl _ _).alloc (Nat.le_refl _) _
        refine hK.out _ _ (HKB.out _ hb5) (fun hHeld => ?_)
        clear hK K hHeld
        refine wpAnyH_ready (rs := [7]) (by kernel_rfl) (by simp) ?_
        refine AllReadyH.consS rfl (fun K hK => ?_) AllReadyH.nil
        go_simp
        refine hK.out _ _ (HKB.out _ hb5) (fun hHeld => ?_)
        clear hK K hHeld
        refine wpAnyH_done (by kernel_rfl) ?_ _
        have HB5 := hid hb5
        clear hb5 hc5
        go_wp2_with fail
        go_ret
        have hr3 := HR5.out
        subst hr3
        refine ⟨HF5.out.more HB5.out hlt, _, rfl, ⟨w5.heap.size, av, cv, rfl, ?_, ?_, ?_⟩, HD5.out.below HB5.out⟩
        · have := HF5.out.size
          show w.heap.size ≤ w5.heap.size
          omega
        · rw [← HS.out, ← HN.out]
          exact heap_alloc_new w5 _
        · have hsz := HF1.out.size
          exact PTBs.keep (fun b hb hl2 => ⟨(show w.heap.size ≤ b from Nat.le_trans hsz hb), HB5.out.block b hl2⟩) _ _ _ HPS.out
    · have q1 : ((ka : Int) == 10) = false := by simp; omega
      rw [if_neg (fun e => h10 (HKA.out.symm.trans e))] at hr2
      have HR2 := hid hr2
      clear hr2 h10 HR1
      go_wp2_with fail
      go_ret
      have hr3 := HR2.out
      subst hr3
      have hb5 : Below W1.heap.size W1 (W1.alloc (.cells #[.int .i64 1, .string s, .int .i64 (nm.2 : Int), .int .i64 0, .slice none 0 0] 84)) := (Below.refl _ _).alloc (Nat.le_refl _) _
      refine ⟨HF1.out.more hb5 hlt, _, rfl, ⟨W1.heap.size, none, 0, rfl, ?_, ?_, trivial⟩, HD1.out.below hb5⟩
      · have := HF1.out.size
        show w.heap.size ≤ W1.heap.size
        omega
      · rw [← HS.out]
        exact heap_alloc_new W1 _

end Go.Proofs.YthpkcageimhgaaaDoor

namespace Go.Proofs.YthpkcageimhgaaaDoor
open Go.RowKit

set_option maxRecDepth 100000 in
set_option maxHeartbeats 1000000 in
theorem partX (R : Nat) (T : ByteArray) (f j l : Nat) (w : World) (hE : EC R T f) (hX : XC R T f) (hL : ∀ a W (r : Res (List Tr)), RdAt W R T a l → r = pList (by' T) f a l → r ≠ .out → Calls Tryd.prog 84 #[.pointer (some ⟨R, 0, none⟩), .func (.func 40) #[.pointer (some ⟨R, 0, none⟩)] #[]] W (Rx W R T l l (VL W.heap.size) r)) (hR : RdAt w R T j l) (hl : l ≤ 64) (r : Res Tr) (hr : r = pPart (by' T) (f + 1) j l) (hro : r ≠ .out) :
    Calls Tryd.prog 71 #[.pointer (some ⟨R, 0, none⟩)] w (Rx w R T l l (VX w.heap.size) r) := by
  have c1 : w.cell? ⟨R, 1, none⟩ = some (.int .i64 ((tok (by' T) j).kind : Int)) := by simp [World.cell?, hR.h]
  rw [pPart] at hr
  have HN := hid (fun h1 => namedX R T f j l w hL hR r h1 hro)
  have HB := hid (fun h1 => inBracketsX R T f j l w hE hR hl r h1 hro)
  have HM := hid (fun h1 => minusX R T f j l w hX hR hl r h1 hro)
  have HU := hid (numX R T j l w hR)
  obtain ⟨ka, hka⟩ : ∃ ka, (tok (by' T) j).kind = ka := ⟨_, rfl⟩
  rw [hka] at c1 hr
  have HR := hid hr
  clear hR hr hro hE hX hL hka
  by_cases h1 : ka = 2
  · have q1 : ((ka : Int) == 2) = true := by rw [h1]; rfl
    have hr2 := HR.out
    rw [if_pos h1] at hr2
    have HC := hid (HN.out hr2)
    clear hr2 h1 HN HB HM HU
    go_enter Tryd.func71, Tryd.ntmps71
    go_wp2_with fail
    refine HC.out.mono ?_
    intro e w1 he
    have HH := hid he
    cases e with
    | returned v => clear he; go_wp2_with fail; go_ret; exact HH.out
    | panicked c => exact ⟨rfl, he⟩
    | outgrown => cases r with
      | ok x a => obtain ⟨_, _, h, _⟩ := he; cases h
      | bad x a => obtain ⟨_, h, _⟩ := he; cases h
      | out => exact he.2.elim
  · have q1 : ((ka : Int) == 2) = false := by simp; omega
    by_cases h2 : ka = 10
    · have q2 : ((ka : Int) == 10) = true := by rw [h2]; rfl
      have hr2 := HR.out
      rw [if_neg h1, if_pos h2] at hr2
      have HC := hid (HB.out hr2)
      clear hr2 h1 h2 HN HB HM HU
      go_enter Tryd.func71, Tryd.ntmps71
      go_wp2_with fail
      refine HC.out.mono ?_
      intro e w1 he
      have HH := hid he
      cases e with
      | returned v => clear he; go_wp2_with fail; go_ret; exact HH.out
      | panicked c => exact ⟨rfl, he⟩
      | outgrown => cases r with
        | ok x a => obtain ⟨_, _, h, _⟩ := he; cases h
        | bad x a => obtain ⟨_, h, _⟩ := he; cases h
        | out => exact he.2.elim
    · have q2 : ((ka : Int) == 10) = false := by simp; omega
      by_cases h3 : ka = 17
      · have q3 : ((ka : Int) == 17) = true := by rw [h3]; rfl
        have hr2 := HR.out
        rw [if_neg h1, if_neg h2, if_pos h3] at hr2
        have HC := hid (HM.out hr2)
        clear hr2 h1 h2 h3 HN HB HM HU
        go_enter Tryd.func71, Tryd.ntmps71
        go_wp2_with fail
        refine HC.out.mono ?_
        intro e w1 he
        have HH := hid he
        cases e with
        | returned v => clear he; go_wp2_with fail; go_ret; exact HH.out
        | panicked c => exact ⟨rfl, he⟩
        | outgrown => cases r with
          | ok x a => obtain ⟨_, _, h, _⟩ := he; cases h
          | bad x a => obtain ⟨_, h, _⟩ := he; cases h
          | out => exact he.2.elim
      · have q3 : ((ka : Int) == 17) = false := by simp; omega
        have hr2 := HR.out
        rw [if_neg h1, if_neg h2, if_neg h3] at hr2
        rw [← hr2] at HU
        clear hr2 h1 h2 h3 HN HB HM
        go_enter Tryd.func71, Tryd.ntmps71
        go_wp2_with fail
        refine HU.out.mono ?_
        intro e w1 he
        have HH := hid he
        cases e with
        | returned v => clear he; go_wp2_with fail; go_ret; exact HH.out
        | panicked c => exact ⟨rfl, he⟩
        | outgrown => cases r with
          | ok x a => obtain ⟨_, _, h, _⟩ := he; cases h
          | bad x a => obtain ⟨_, h, _⟩ := he; cases h
          | out => exact he.2.elim

end Go.Proofs.YthpkcageimhgaaaDoor
