/- Package source: what parsed defers. Package source: all functions of a text, read. -/
import Derived.Test.YthpkcageimhgaaaDoorSsC
import Derived.Defers
import Derived.Recover
import Derived.Test.YthpkcageimhgaaaDoorSqAI
namespace Go.Proofs.YthpkcageimhgaaaDoor
open Go.RowKit

theorem fr17 (a b c v : Value) : (#[a, b, c] ++ (Array.replicate 14 undef).setIfInBounds 3 v : Array Value) = #[a, b, c, undef, undef, undef, v, undef, undef, undef, undef, undef, undef, undef, undef, undef, undef] := by kernel_rfl
theorem eqS_nil (w : World) : (binOp BinOp.eql 20 .nilIface .nilIface).run Tryd.prog w = .ok (.bool true) w := by kernel_rfl
theorem neS_nil (T : TypeId) (v : Value) (w : World) : (binOp BinOp.eql 20 (.iface T v) .nilIface).run Tryd.prog w = .ok (.bool false) w := by kernel_rfl

set_option maxRecDepth 100000 in
set_option maxHeartbeats 400000 in
theorem catchS_idle (p q r : Addr) (w : World) :
    CallsD Tryd.prog 12 #[.pointer (some p), .pointer (some q), .pointer (some r)] .returning w fun e u' w' => e = .returned (.tuple #[]) ∧ u' = .returning ∧ w' = w := by
  refine callsD_of_wpS Tryd.func12 rfl fun c₀ cs hu => ?_
  have hnil := eqS_nil
  apply wpS_seq
  apply wpS_region
  simp [wpOpsS, go_sem, recoverD, hu, Tryd.ntmps12, Exit.thenS]
  rw [fr17]
  refine wpS_of_wp ?_
  go_wp2_with fail
  cases c₀
  simp_all [bodyPostS, results, Tryd.results12]

theorem frozenS_alloc_old (w : World) (o : Obj) {p : Addr} (h : p.block < w.heap.size) : (w.alloc o).frozen? p = w.frozen? p := by
  have e : (w.alloc o).heap[p.block]? = w.heap[p.block]? := ((Below.refl _ w).alloc (Nat.le_refl _) o).block _ h
  unfold World.frozen?
  rw [e]
theorem ta_fault (a b : Value) (w : World) : (Instr.typeAssert (.iface 53 (.agg #[a, b])) 20 53 true).run Tryd.prog w = .ok (.tuple #[.agg #[a, b], .bool true]) w := by kernel_rfl

set_option maxRecDepth 100000 in
set_option maxHeartbeats 400000 in
theorem catchS_fault (P Q R at' er : Nat) (a b c : Value) (w : World) (h1 : w.cell? ⟨P, 0, none⟩ = some a) (h2 : w.cell? ⟨Q, 0, none⟩ = some b) (h3 : w.cell? ⟨R, 0, none⟩ = some c) (f1 : w.frozen? ⟨P, 0, none⟩ = false) (f2 : w.frozen? ⟨Q, 0, none⟩ = false) (f3 : w.frozen? ⟨R, 0, none⟩ = false) (hPQ : P ≠ Q) (hPR : P ≠ R) (hQR : Q ≠ R) :
    CallsD Tryd.prog 12 #[.pointer (some ⟨P, 0, none⟩), .pointer (some ⟨Q, 0, none⟩), .pointer (some ⟨R, 0, none⟩)] (.panicking [{ v := .iface 53 (.agg #[.int .i64 (at' : Int), .int .i64 (er : Int)]), recovered := false }]) w fun e u' w' => e = .returned (.tuple #[]) ∧ u' = .panicking [{ v := .iface 53 (.agg #[.int .i64 (at' : Int), .int .i64 (er : Int)]), recovered := true }] ∧
      w' = ((((w.alloc (.cells #[.int .i64 (at' : Int), .int .i64 (er : Int)] 53)).drew.setCell ⟨P, 0, none⟩ (.slice none 0 0)).setCell ⟨Q, 0, none⟩ (.int .i64 (at' : Int))).setCell ⟨R, 0, none⟩ (.iface 30 (.int .i64 (er : Int)))) := by
  refine callsD_of_wpS Tryd.func12 rfl fun c₀ cs hu => ?_
  have hnil := neS_nil
  have hta := ta_fault
  obtain ⟨W0, hW0⟩ : ∃ W0, W0 = w.alloc (.cells #[.int .i64 (at' : Int), .int .i64 (er : Int)] 53) := ⟨_, rfl⟩
  have hb0 : Below w.heap.size w W0 := by rw [hW0]; exact (Below.refl _ _).alloc (Nat.le_refl _) _
  have k1 := (hb0.cell (p := ⟨P, 0, none⟩) (World.block_lt_of_cell? _ _ h1)).trans h1
  have m1 : W0.frozen? ⟨P, 0, none⟩ = false := by rw [hW0, frozenS_alloc_old w _ (World.block_lt_of_cell? _ _ h1)]; exact f1
  have k2 := (hb0.cell (p := ⟨Q, 0, none⟩) (World.block_lt_of_cell? _ _ h2)).trans h2
  have m2 : W0.frozen? ⟨Q, 0, none⟩ = false := by rw [hW0, frozenS_alloc_old w _ (World.block_lt_of_cell? _ _ h2)]; exact f2
  have k3 := (hb0.cell (p := ⟨R, 0, none⟩) (World.block_lt_of_cell? _ _ h3)).trans h3
  have m3 : W0.frozen? ⟨R, 0, none⟩ = false := by rw [hW0, frozenS_alloc_old w _ (World.block_lt_of_cell? _ _ h3)]; exact f3
  have l1 := World.block_lt_of_cell? _ _ h1
  have l2 := World.block_lt_of_cell? _ _ h2
  have l3 := World.block_lt_of_cell? _ _ h3
  have g0 : W0.cell? ⟨w.heap.size, 0, none⟩ = some (.int .i64 (at' : Int)) := by rw [hW0]; go_simp
  have g1 : W0.cell? ⟨w.heap.size, 1, none⟩ = some (.int .i64 (er : Int)) := by rw [hW0]; go_simp
  clear h1 h2 h3 f1 f2 f3 hb0
  rw [← hW0]
  apply wpS_seq
  apply wpS_region
  simp [wpOpsS, go_sem, recoverD, hu, Tryd.ntmps12, Exit.thenS]
  rw [fr17]
  refine wpS_of_wp ?_
  go_wp2_with fail
  rw [← hW0]
  have HO : Hid (∀ (W : World) (g : Nat) (u : Value), g < w.heap.size → (W.cell? ⟨w.heap.size, 0, none⟩ = some (.int .i64 (at' : Int)) ∧ W.cell? ⟨w.heap.size, 1, none⟩ = some (.int .i64 (er : Int))) → ((W.setCell ⟨g, 0, none⟩ u).cell? ⟨w.heap.size, 0, none⟩ = some (.int .i64 (at' : Int)) ∧ (W.setCell ⟨g, 0, none⟩ u).cell? ⟨w.heap.size, 1, none⟩ = some (.int .i64 (er : Int)))) := fun W g u hg h =>
    ⟨(World.cell?_of_block (w := W) (a := ⟨w.heap.size, 0, none⟩) (Below.heap_setCell _ _ _ _ (by show w.heap.size ≠ g; omega))).trans h.1, (World.cell?_of_block (w := W) (a := ⟨w.heap.size, 1, none⟩) (Below.heap_setCell _ _ _ _ (by show w.heap.size ≠ g; omega))).trans h.2⟩
  clear hW0
  refine wp_region_held_drew (S := (fun W => W.cell? ⟨w.heap.size, 0, none⟩ = some (.int .i64 (at' : Int)) ∧ W.cell? ⟨w.heap.size, 1, none⟩ = some (.int .i64 (er : Int)))) (by kernel_rfl) ⟨g0, g1⟩ (fun hHeld => ?_)
  refine wpAnyH_takeS (i := 0) (v := .pointer (some ⟨w.heap.size, 0, none⟩)) rfl (by kernel_rfl) (by kernel_rfl) (by kernel_rfl) (fun _ _ _ h => h) (by rfl) (fun W hC => by go_simp) hHeld ?_
  simp only [Act.put, List.setIfInBounds_toArray, List.set_cons_zero, List.set_cons_succ]
  refine wpAnyH_takeS (i := 1) (v := .int .i64 (at' : Int)) rfl (by kernel_rfl) (by kernel_rfl) (by kernel_rfl) (fun _ _ _ h => h) (by rfl) (fun W hC => by (obtain ⟨y0, y1⟩ := hC); go_simp) hHeld ?_
  simp only [Act.put, List.setIfInBounds_toArray, List.set_cons_zero, List.set_cons_succ]
  refine wpAnyH_takeS (i := 2) (v := .pointer (some ⟨w.heap.size, 1, none⟩)) rfl (by kernel_rfl) (by kernel_rfl) (by kernel_rfl) (fun _ _ _ h => h) (by rfl) (fun W hC => by go_simp) hHeld ?_
  simp only [Act.put, List.setIfInBounds_toArray, List.set_cons_zero, List.set_cons_succ]
  refine wpAnyH_takeS (i := 3) (v := .int .i64 (er : Int)) rfl (by kernel_rfl) (by kernel_rfl) (by kernel_rfl) (fun _ _ _ h => h) (by rfl) (fun W hC => by (obtain ⟨y0, y1⟩ := hC); go_simp) hHeld ?_
  simp only [Act.put, List.setIfInBounds_toArray, List.set_cons_zero, List.set_cons_succ]
  refine wpAnyH_takeS (i := 4) (v := .iface 30 (.int .i64 (er : Int))) rfl (by kernel_rfl) (by kernel_rfl) (by kernel_rfl) (fun _ _ _ h => h) (by rfl) (fun W hC => by go_simp) hHeld ?_
  simp only [Act.put, List.setIfInBounds_toArray, List.set_cons_zero, List.set_cons_succ]
  have j1 : W0.drew.cell? ⟨P, 0, none⟩ = some a := k1
  have j2 : W0.drew.cell? ⟨Q, 0, none⟩ = some b := k2
  have j3 : W0.drew.cell? ⟨R, 0, none⟩ = some c := k3
  have n1 : W0.drew.frozen? ⟨P, 0, none⟩ = false := m1
  have n2 : W0.drew.frozen? ⟨Q, 0, none⟩ = false := m2
  have n3 : W0.drew.frozen? ⟨R, 0, none⟩ = false := m3
  clear k1 k2 k3 m1 m2 m3 g0 g1
  obtain ⟨V0, hV0⟩ : ∃ V0, V0 = W0.drew := ⟨_, rfl⟩
  rw [← hV0] at j1 j2 j3 n1 n2 n3 hHeld ⊢
  have HV0 := hid hV0
  clear hV0
  refine wpAnyH_ready (rs := [5]) (by kernel_rfl) (by simp) ?_
  refine AllReadyH.consS rfl (fun K hK => ?_) AllReadyH.nil
  go_simp
  refine hK.out _ _ (HO.out _ P _ l1 hHeld) (fun hHeld => ?_)
  clear hK K
  refine wpAnyH_ready (rs := [6]) (by kernel_rfl) (by simp) ?_
  refine AllReadyH.consS rfl (fun K hK => ?_) AllReadyH.nil
  go_simp
  refine hK.out _ _ (HO.out _ Q _ l2 hHeld) (fun hHeld => ?_)
  clear hK K
  refine wpAnyH_ready (rs := [7]) (by kernel_rfl) (by simp) ?_
  refine AllReadyH.consS rfl (fun K hK => ?_) AllReadyH.nil
  go_simp
  refine hK.out _ _ (HO.out _ R _ l3 hHeld) (fun hHeld => ?_)
  clear hK K
  refine wpAnyH_done (by kernel_rfl) ?_ _
  go_wp2_with fail
  simp [bodyPostS, results, Tryd.results12]
  rw [HV0.out]
  rfl

end Go.Proofs.YthpkcageimhgaaaDoor

namespace Go.Proofs.YthpkcageimhgaaaDoor
open Go.RowKit

/-- the library's own error is there -/
def EvW (w : World) : Prop := 5 < w.heap.size ∧ ∃ ev, w.cell? ⟨5, 0, none⟩ = some ev ∧ (ev = .nilIface ∨ ∃ te pe, ev = .iface te pe)
theorem EvW.below {w w' : World} (h : EvW w) (g : Below w.heap.size w w') : EvW w' := by
  obtain ⟨h1, ev, h2, h3⟩ := h
  exact ⟨Nat.lt_of_lt_of_le h1 g.size, ev, (g.cell (p := ⟨5, 0, none⟩) h1).trans h2, h3⟩
/-- how the reading of a text ends -/
def RdP (w : World) (r : Res (List FnT)) (e : Ending) (w' : World) : Prop := Below w.heap.size w w' ∧ match r with
  | .ok fs _ => ∃ a c, e = .returned (.slice a fs.length c) ∧ (fs.length ≤ c ∧ c ≤ maxLen) ∧ FnR w.heap.size w' a fs
  | .bad er at' => e = pncF at' er
  | .out => False

theorem pFun_nx {L : List UInt8} {f a j : Nat} {g : FnT} (h : pFun L f a = .ok g j) : a ≤ L.length → (tok L a).at' + 1 ≤ j := by
  intro ha
  have hk : (pFun L f a).Fx L.length (tok L a).nx := by
    unfold pFun
    cases hp : pTake L 4 a with
    | out => trivial
    | bad e a => trivial
    | ok t a1 =>
      obtain ⟨e1, e2, e3⟩ := pTake_ok hp
      have h1 := tok_at L a ha
      show Res.Fx _ _ ((pName L a1).bind _)
      rw [e2]
      refine (pName_fx L _ h1.2.1).bind fun nm a2 _ h2 m2 => ?_
      refine (pBrack_fx L f a2 m2).bind fun more a3 _ h3 m3 => ?_
      refine (pTake_fx L 14 a3 m3 (by decide)).bind fun _ a4 _ h4 m4 => ?_
      refine ((p_fx L f).1 a4 0 m4).bind fun x a5 _ h5 m5 => ?_
      exact ⟨by omega, m5⟩
  rw [h] at hk
  have h2 : (tok L a).kind = 4 := by
    unfold pFun at h
    cases hp : pTake L 4 a with
    | out => rw [hp] at h; cases h
    | bad e a => rw [hp] at h; cases h
    | ok t a1 => exact (pTake_ok hp).2.2
  have h3 := (tok_at L a ha).2.2.2.1 (by rw [h2]; decide)
  have h4 := hk.1
  omega

set_option maxRecDepth 100000 in
set_option maxHeartbeats 4000000 in
theorem readX (T : ByteArray) (f : Nat) (w : World) (hT : T.size ≤ 4000) (hEv : EvW w) (r : Res (List FnT)) (hr : r = pProg (by' T) f [] 0) (hro : r ≠ .out) :
    Calls Tryd.prog 13 #[.string T] w (RdP w r) := by
  have HTK := hid (tokenAt_any T 0 w (by omega) (Nat.zero_le _))
  have HEv := hid hEv
  have HR := hid hr
  have HRO := hid hro
  have HSM := hid hT
  have hFI : (Tryd.prog.info? 40).map (fun i => (i.zero, i.size, i.bytes)) = some (some (.agg #[.string ⟨#[]⟩, .int .i64 0, .slice none 0 0, .pointer none]), 4, 56) := by kernel_rfl
  obtain ⟨i0, hi, hz0, hz1, hz2⟩ := info_parts hFI
  have HI := hid (And.intro hi (And.intro hz0 (And.intro hz1 hz2)))
  clear hr hro hT hEv hi hz0 hz1 hz2 hFI
  go_enter Tryd.func13, Tryd.ntmps13
  go_wp2_with fail
  refine HTK.out.mono ?_
  rintro e w1 ⟨rfl, hb1⟩
  obtain ⟨R, hRR⟩ : ∃ R, R = w1.heap.size := ⟨_, rfl⟩
  obtain ⟨W1, hW1⟩ : ∃ W1, W1 = w1.alloc (.cells #[.string T, .int .i64 ((tok (by' T) 0).kind : Int), .int .i64 ((tok (by' T) 0).at' : Int), .string (bs (tok (by' T) 0).text), .int .i64 0] 69) := ⟨_, rfl⟩
  have hbW : Below w1.heap.size w1 W1 := by rw [hW1]; exact (Below.refl _ _).alloc (Nat.le_refl _) _
  have hz : W1.heap.size = R + 1 := by rw [hW1, hRR]; simp
  have hev1 := HEv.out.below hb1
  have hrd : RdAt W1 R T 0 0 := by
    refine ⟨?_, Nat.zero_le _, HSM.out, ?_⟩
    · rw [hW1, hRR]; exact heap_alloc_new w1 _
    · obtain ⟨k1, ev, k2, k3⟩ := hev1
      exact ⟨by rw [hRR]; exact k1, ev, (hbW.cell (p := ⟨5, 0, none⟩) k1).trans k2, k3⟩
  have HD0 := hid hrd
  have HB1 : Hid (Below w.heap.size w W1) := hb1.trans (hbW.mono hb1.size)
  have HZ := hid hz
  have hwR : w.heap.size ≤ R := by have := hb1.size; omega
  have HWR := hid hwR
  have HRR := hid hRR
  have HW1 := hid hW1
  have hlt : R < W1.heap.size := by omega
  clear hrd hbW hev1 hb1 hz hwR hW1 hRR
  unfold tokv
  go_wp2_with fail
  rw [← HW1.out, ← HRR.out]
  clear HW1 HRR HTK
  have HA0 : Hid (∃ g, g ≤ f ∧ r = pProg (by' T) g [] 0) := ⟨f, Nat.le_refl _, HR.out⟩
  go_loopw [4] (fun v wr => ∃ (fs : List FnT) (a : Nat), Hid (Fr R W1 wr) ∧ Hid (RdAt wr R T a 0) ∧ Hid (FnRow W1.heap.size wr v fs) ∧ Hid (fs.length ≤ a) ∧ Hid (∃ g, g ≤ f ∧ r = pProg (by' T) g fs a)) (fun _ wr => T.size + 1 - rdm R wr)
  case atStart => exact ⟨[], 0, Fr.refl _ _, HD0, ⟨[], World.ownsRow_nil _ _ _ _, fun i g hg => by simp at hg⟩, Nat.zero_le _, HA0⟩
  case round =>
    obtain ⟨fs, a, hF, hD, hRw, hLn, hAr⟩ := hrel
    obtain ⟨av, cv, rfl⟩ := hRw.out.form
    have c1 : wr.cell? ⟨R, 1, none⟩ = some (.int .i64 ((tok (by' T) a).kind : Int)) := by simp [World.cell?, hD.out.h]
    clear HD0 HA0 HR
    have HRD := hid hD.out.rdm
    have hta := tok_at (by' T) a (by rw [by_len]; exact hD.out.le)
    have HTA := hid hta
    clear hta
    obtain ⟨ka, hka⟩ : ∃ ka, (tok (by' T) a).kind = ka := ⟨_, rfl⟩
    rw [hka] at c1
    have HKA := hid hka
    obtain ⟨n, hn⟩ : ∃ n, fs.length = n := ⟨_, rfl⟩
    have HN := hid hn
    rw [hn] at hRw ⊢
    have hgx : ∃ g, g + 1 ≤ f ∧ r = pProg (by' T) (g + 1) fs a := by
      obtain ⟨g, hg, h1⟩ := hAr.out
      cases g with
      | zero => rw [pProg] at h1; exact absurd h1 HRO.out
      | succ g => exact ⟨g, hg, h1⟩
    obtain ⟨g, hgf, hr2⟩ := hgx
    rw [pProg, hka] at hr2
    have HG := hid hgf
    have HR1 := hid hr2
    clear hr2 hgf hAr
    by_cases h1 : ka = 1
    · have q1 : ((ka : Int) != 1) = false := by rw [h1]; rfl
      have hr2 := HR1.out
      rw [if_pos h1] at hr2
      have HR2 := hid hr2
      clear hr2 h1 hka hn HR1
      go_wp2_with fail
      go_ret
      have hr3 := HR2.out
      subst hr3
      have hbw : Below w.heap.size w wr := HB1.out.trans (hF.out.1.mono HWR.out)
      obtain ⟨a2, c2, e1, hcc, h5⟩ := hRw.out.vl
      injection e1 with e1 _ e3
      subst e1
      subst e3
      refine ⟨hbw, _, _, by rw [HN.out]; rfl, hcc, ?_⟩
      have hle := HB1.out.size
      intro i y hy
      obtain ⟨k, a3, c, b, k1, k2, k3, k4, k5, k6, k7, k8⟩ := h5 i y hy
      exact ⟨k, a3, c, b, k1, by omega, k3, k4, k5, k6, k7.keep hle (fun _ _ _ => rfl), k8.mono hle⟩
    · have q1 : ((ka : Int) != 1) = true := by simp; omega
      have hr2 := HR1.out
      rw [if_neg h1] at hr2
      have hne : pFun (by' T) g a ≠ .out := fun e => by rw [e] at hr2; exact HRO.out hr2
      have HC := hid (functionX R T g a wr hD.out _ rfl hne)
      have HFX := hid (pFun_fx (by' T) g a (by rw [by_len]; exact hD.out.le))
      have HR2 := hid hr2
      have HK1 := hid h1
      clear hr2 h1 hka hn HR1
      go_wp2_with fail
      refine HC.out.mono ?_
      intro e w4 he
      have hr2 := HR2.out
      cases ht : pFun (by' T) g a with
      | out => exact absurd ht hne
      | bad er at' =>
        rw [ht] at he hr2
        obtain ⟨h5, rfl, h6⟩ := he
        simp only [Res.bind] at hr2
        subst hr2
        exact ⟨rfl, HB1.out.trans ((hF.out.trans h5).1.mono HWR.out), rfl⟩
      | ok fn a1 =>
        rw [ht] at he hr2
        obtain ⟨h5, v, rfl, ⟨a2, c2, b2, rfl, hnm, hpt⟩, h6⟩ := he
        simp only [Res.bind] at hr2
        have hfx := HFX.out
        rw [ht] at hfx
        have HFUN := hid (pFun_nx ht)
        have HDL := hid hD.out.le
        have hF4 := hF.out.trans h5
        have hRw4 := hRw.out.fr h5 hlt
        obtain ⟨xs, hown4, hel4⟩ := hRw4
        have hgl : ∀ k, (Value.slice av n cv).ownBlock = some k → W1.heap.size ≤ k ∧ k < wr.heap.size := fun k e => by
          obtain ⟨xs3, h7, _⟩ := hRw.out
          exact h7.lt k e
        have hsr := hF.out.size
        have hkB : ∀ b, wr.heap.size ≤ b → W1.heap.size ≤ b ∧ some b ≠ (Value.slice av n cv).ownBlock := fun b hb => ⟨by omega, fun e => by have := hgl b e.symm; omega⟩
        obtain ⟨s, hs⟩ : ∃ s, s = bs fn.name := ⟨_, rfl⟩
        have HS := hid hs
        obtain ⟨m, hm⟩ : ∃ m, m = fn.more.length := ⟨_, rfl⟩
        have HMM := hid hm
        rw [← hs, ← hm]
        have hbA : Below w4.heap.size w4 (w4.alloc (.cells #[.string s, .int .i64 (fn.at' : Int), .slice a2 m c2, .pointer (some ⟨b2, 0, none⟩)] 40)) := (Below.refl _ _).alloc (Nat.le_refl _) _
        have HNB := hid (NmB.keep (B' := fun b => W1.heap.size ≤ b ∧ some b ≠ (Value.slice av n cv).ownBlock) hnm (fun b hb hl2 => ⟨hkB b hb, hbA.block b hl2⟩))
        have HPB := hid (PTB.keep (B' := fun b => W1.heap.size ≤ b ∧ some b ≠ (Value.slice av n cv).ownBlock) (fun b hb hl2 => ⟨hkB b hb, hbA.block b hl2⟩) _ _ hpt)
        have hownA := hown4.alloc (.cells #[.string s, .int .i64 (fn.at' : Int), .slice a2 m c2, .pointer (some ⟨b2, 0, none⟩)] 40)
        have HELA := hid (fun i g hg => (hel4 i g hg).keep (B' := fun b => W1.heap.size ≤ b ∧ some b ≠ (Value.slice av n cv).ownBlock) (fun b hB hl2 => ⟨hB, hbA.block b hl2⟩))
        have hAr2 : ∃ g, g ≤ f ∧ r = pProg (by' T) g (fs ++ [fn]) a1 := ⟨g, by have := HG.out; omega, hr2⟩
        have hLn2 : (fs ++ [fn]).length ≤ a1 := by
          have h7 := hLn.out
          have h9 := hfx.1
          rw [List.length_append]
          show fs.length + 1 ≤ a1
          omega
        have hn4 : n ≤ 4000 := by
          have h7 := hLn.out
          have h8 := HSM.out
          have h9 := hD.out.le
          have h10 := HN.out
          omega
        have hs4 := hF4.size
        have HOWN := hid hownA
        have HAr2 := hid hAr2
        have HLn2 := hid hLn2
        have HF4 := hid hF4
        have HD4 := hid h6
        have HGL := hid hgl
        have HN4 := hid hn4
        have HS4 := hid hs4
        have hln : fs.length = n := HN.out
        rw [hln] at HOWN
        have HFX2 := hid hfx
        have HBA := hid hbA
        clear hownA hown4 hel4 hAr2 hLn2 hF4 h6 hgl hn4 hs4 hbA hnm hpt h5 hr2 ht hfx HC hne hln hs hm hkB hsr hF hD hRw c1 q1
        go_wp2_with (at_builtin; refine wpList_append_own_at _ rfl _ _ 31 rfl W1.heap.size 40 i0 _ 4 56 Tryd.underlying31 HI.out.1 HI.out.2.1 HI.out.2.2.1 HI.out.2.2.2 rfl (by decide) (.slice av n cv) n xs rfl HOWN.out ⟨w4.heap.size, 0, none⟩ 1 1 [.string s, .int .i64 (fn.at' : Int), .slice a2 m c2, .pointer (some ⟨b2, 0, none⟩)] rfl rfl (cell_four_new _ _ _ _ _ _) (by simp [Value.oneCell']) (by have := HN4.out; unfold maxLen; omega) (by have := HN4.out; omega) (by have := HS4.out; simp; omega) ?_; intro v' w5 hown2 hgrow _ hwhere)
        have hnR : some R ≠ (Value.slice av n cv).ownBlock := fun e => by have := (HGL.out R e.symm).1; omega
        have hln : fs.length = n := HN.out
        have hown2' := hown2
        rw [← hln, HS.out, HMM.out] at hown2'
        have HRow2 : Hid (FnRow W1.heap.size w5 v' (fs ++ [fn])) := FnRow.push (W := w4.alloc (.cells #[.string s, .int .i64 (fn.at' : Int), .slice a2 m c2, .pointer (some ⟨b2, 0, none⟩)] 40)) (by rw [hln]; exact HOWN.out) HELA.out HNB.out HPB.out hown2' hgrow hwhere
        have hfr5 : Fr R W1 w5 := (HF4.out.more HBA.out hlt).grown hgrow (fun k e => (HGL.out k e).1) hlt
        have hrd5 : RdAt w5 R T a1 0 := by
          have h7 := HD4.out.below HBA.out
          exact ⟨(hgrow.block R h7.lt hnR).trans h7.h, h7.le, h7.small, by
            obtain ⟨k1, ev, k2, k3⟩ := h7.ev
            exact ⟨k1, ev, hgrow.cell k2 (fun e => by have := (HGL.out _ e.symm).1; simp at this; omega), k3⟩⟩
        have HFa := hid hfr5
        have HDa := hid hrd5
        have hm : T.size + 1 - rdm R w5 < T.size + 1 - rdm R wr := by
          rw [hrd5.rdm, HRD.out]
          have k1 := tok_at (by' T) a1 (by rw [by_len]; exact hrd5.le)
          rw [by_len] at k1
          have k2 := HTA.out
          rw [by_len] at k2
          have k3 := HFX2.out.1
          have k4 := HFUN.out (by rw [by_len]; exact HDL.out)
          omega
        have HM := hid hm
        clear hnR hln hown2' hown2 hgrow hwhere hfr5 hrd5 hm HBA
        go_roundw
        case rel => exact ⟨fs ++ [fn], a1, HFa, HDa, HRow2, HLn2, HAr2⟩
        case measure => exact HM.out

end Go.Proofs.YthpkcageimhgaaaDoor
