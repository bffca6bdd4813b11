/- Package source: the reader begins and ends levels, reads names. Package source: the reader reads names. -/
import Derived.Test.YthpkcageimhgaaaDoorSrG
namespace Go.Proofs.YthpkcageimhgaaaDoor
open Go.RowKit

/-- how a reading ends: V says what a value stands for -/
def Rx {α : Type} (w : World) (R : Nat) (T : ByteArray) (l l' : Nat) (V : World → Value → α → Prop) (r : Res α) (e : Ending) (w' : World) : Prop := Fr R w w' ∧ match r with
  | .ok x j => ∃ v, e = .returned v ∧ V w' v x ∧ RdAt w' R T j l'
  | .bad er at' => e = pncF at' er ∧ ∃ j, RdAt w' R T j l
  | .out => False
def VTok : World → Value → Tok → Prop := fun _ v t => v = tokv t
def VNone : World → Value → Unit → Prop := fun _ v _ => v = .tuple #[]
/-- a name in memory -/
def namv (nm : List UInt8 × Nat) : Value := .agg #[.string (bs nm.1), .int .i64 (nm.2 : Int)]
def VNam : World → Value → List UInt8 × Nat → Prop := fun _ v nm => v = namv nm

theorem takeX (R : Nat) (T : ByteArray) (j l k : Nat) (w : World) (hR : RdAt w R T j l) :
    Calls Tryd.prog 37 #[.pointer (some ⟨R, 0, none⟩), .int .i64 (k : Int)] w (Rx w R T l l VTok (pTake (by' T) k j)) := by
  unfold pTake
  by_cases hk : (tok (by' T) j).kind = k
  · rw [if_pos hk]
    refine (take_yes R T j l k w hR hk).mono ?_
    rintro e w' ⟨rfl, h1, h2⟩
    exact ⟨h1, _, rfl, rfl, h2⟩
  · rw [if_neg hk]
    refine (take_no R T j l k w hR hk).mono ?_
    rintro e w' ⟨rfl, h1⟩
    exact ⟨Fr.below h1 (Nat.le_of_lt hR.lt), rfl, j, hR.below h1⟩

/-- the level alone has turned -/
theorem RdAt.level {w : World} {R : Nat} {T : ByteArray} {j l : Nat} (h : RdAt w R T j l) (m : Nat) : RdAt (w.setCell ⟨R, 4, none⟩ (.int .i64 (m : Int))) R T j m :=
  ⟨heap_setCell_same _ R 4 _ _ _ h.h, h.le, h.small, h.ev.below ((Below.refl R w).setCell (p := ⟨R, 4, none⟩) (Nat.le_refl _) _)⟩

theorem fld_tok (a b c : Value) (w : World) : (Instr.field 66 (.agg #[a, b, c]) 1).run Tryd.prog w = .ok b w := by
  simp [Instr.field, run_underlying Tryd.underlying66, part, Tryd.isAgg3, Result.andThen]
  rfl

set_option maxRecDepth 100000 in
set_option maxHeartbeats 400000 in
theorem enterX (R : Nat) (T : ByteArray) (j l k : Nat) (w : World) (hR : RdAt w R T j l) (hl : l ≤ 64) :
    Calls Tryd.prog 53 #[.pointer (some ⟨R, 0, none⟩), .int .i64 (k : Int)] w (Rx w R T l (l + 1) VNone (pEnter (by' T) k j l)) := by
  have HT := hid (takeX R T j l k w hR)
  have hlt := hR.lt
  unfold pEnter
  clear hR
  cases hp : pTake (by' T) k j with
  | out => unfold pTake at hp; split at hp <;> cases hp
  | bad er at' =>
    rw [hp] at HT
    show Calls _ _ _ _ (Rx w R T l (l + 1) VNone (.bad er at'))
    clear hp
    go_enter Tryd.func53, Tryd.ntmps53
    go_wp2_with fail
    refine HT.out.mono ?_
    rintro e w1 ⟨h1, rfl, h2⟩
    exact ⟨rfl, h1, rfl, h2⟩
  | ok t a =>
    rw [hp] at HT
    show Calls _ _ _ _ (Rx w R T l (l + 1) VNone (if l = 64 then .bad 9 t.at' else .ok () a))
    clear hp
    by_cases h64 : l = 64
    · rw [if_pos h64]
      have q : ((l : Int) == 64) = true := by rw [h64]; rfl
      go_enter Tryd.func53, Tryd.ntmps53
      go_wp2_with fail
      refine HT.out.mono ?_
      rintro e w1 ⟨h1, v, rfl, rfl, h2⟩
      have H1 := hid h1
      have H2 := hid h2
      have c4 : w1.cell? ⟨R, 4, none⟩ = some (.int .i64 (l : Int)) := by simp [World.cell?, h2.h]
      clear h1 h2 h64
      unfold tokv
      have hfd := fun W => fld_tok (.int .i64 (t.kind : Int)) (.int .i64 (t.at' : Int)) (.string (bs t.text)) W
      go_wp2_with fail
      exact ⟨rfl, H1.out, rfl, a, H2.out⟩
    · rw [if_neg h64]
      have q : ((l : Int) == 64) = false := by simp; omega
      have hwr : IntKind.i64.wrap ((l : Int) + 1) = (l : Int) + 1 := by rw [IntKind.wrap_i64]; omega
      go_enter Tryd.func53, Tryd.ntmps53
      go_wp2_with fail
      refine HT.out.mono ?_
      rintro e w1 ⟨h1, v, rfl, rfl, h2⟩
      have H1 := hid h1
      have H2 := hid h2
      have c4 : w1.cell? ⟨R, 4, none⟩ = some (.int .i64 (l : Int)) := by simp [World.cell?, h2.h]
      have cf := frozen_of_row w1 R 4 _ _ h2.h
      clear h1 h2 h64
      unfold tokv
      have hfd := fun W => fld_tok (.int .i64 (t.kind : Int)) (.int .i64 (t.at' : Int)) (.string (bs t.text)) W
      go_wp2_with fail
      go_end0
      exact ⟨H1.out.set 4 _, _, rfl, rfl, H2.out.level (l + 1)⟩

theorem leave_wp (R : Nat) (T : ByteArray) (j l : Nat) (w : World) (hR : RdAt w R T j (l + 1)) (hl : l ≤ 64) (u : FrameMode) :
    CallsD Tryd.prog 54 #[.pointer (some ⟨R, 0, none⟩)] u w fun e u' w' => u' = u ∧ e = .returned (.tuple #[]) ∧ w' = w.setCell ⟨R, 4, none⟩ (.int .i64 (l : Int)) := by
  have c4 : w.cell? ⟨R, 4, none⟩ = some (.int .i64 (((l + 1 : Nat)) : Int)) := by simp [World.cell?, hR.h]
  have cf := frozen_of_row w R 4 _ _ hR.h
  have hwr : IntKind.i64.wrap (((l + 1 : Nat) : Int) - 1) = (l : Int) := by rw [IntKind.wrap_i64]; omega
  generalize ((l + 1 : Nat) : Int) = m at c4 hwr
  clear hR
  refine callsD_of_wp (R := fun e w' => e = .returned (.tuple #[]) ∧ w' = w.setCell ⟨R, 4, none⟩ (.int .i64 (l : Int))) Tryd.func54 rfl ?_
  rw [Tryd.ntmps54]
  simp only [List.size_toArray, List.length_cons, List.length_nil]
  go_wp2_with fail
  go_end0
  exact ⟨rfl, rfl⟩

/-- at the door of a function that has begun a level: it is ended, whatever comes -/
theorem leave_door {fn : Func} {tmps : Array Value} {Q : Ending → World → Prop} {R : Nat} {T : ByteArray} {j l : Nat} {w : World} (hR : RdAt w R T j (l + 1)) (hl : l ≤ 64) (u : FrameMode) (hu : u ≠ .run) (hs : settle u = u)
    (h : Leaves Tryd.prog fn tmps Q [] u (w.setCell ⟨R, 4, none⟩ (.int .i64 (l : Int)))) :
    Leaves Tryd.prog fn tmps Q [{ target := .fn (.func 54) #[], args := #[.pointer (some ⟨R, 0, none⟩)] }] u w := by
  refine leaves_cons (f := 54) (args := #[.pointer (some ⟨R, 0, none⟩)]) hu (by simp [go_sem]) ?_
  refine (leave_wp R T j l w hR hl u).mono ?_
  rintro e u' w' ⟨rfl, rfl, rfl⟩
  show Leaves _ _ _ _ _ (settle u') _
  rw [hs]
  exact h
/-- what a level was begun for comes to its end -/
theorem leave_ret {fn : Func} {tmps : Array Value} {Q : Ending → World → Prop} {R : Nat} {T : ByteArray} {j l : Nat} {w : World} {v : Value} (hR : RdAt w R T j (l + 1)) (hl : l ≤ 64)
    (hv : (results fn tmps).run Tryd.prog (w.setCell ⟨R, 4, none⟩ (.int .i64 (l : Int))) = .ok v (w.setCell ⟨R, 4, none⟩ (.int .i64 (l : Int)))) (h : Q (.returned v) (w.setCell ⟨R, 4, none⟩ (.int .i64 (l : Int)))) :
    Leaves Tryd.prog fn tmps Q [{ target := .fn (.func 54) #[], args := #[.pointer (some ⟨R, 0, none⟩)] }] .returning w :=
  leave_door hR hl .returning (by simp) rfl ⟨v, hv, h⟩
/-- .. or to a fault -/
theorem leave_pnc {fn : Func} {tmps : Array Value} {Q : Ending → World → Prop} {R : Nat} {T : ByteArray} {j l : Nat} {w : World} {v : Value} (hR : RdAt w R T j (l + 1)) (hl : l ≤ 64)
    (h : Q (.panicked [{ v := v, recovered := false }]) (w.setCell ⟨R, 4, none⟩ (.int .i64 (l : Int)))) :
    Leaves Tryd.prog fn tmps Q [{ target := .fn (.func 54) #[], args := #[.pointer (some ⟨R, 0, none⟩)] }] (.panicking [{ v := v, recovered := false }]) w :=
  leave_door hR hl (.panicking [{ v := v, recovered := false }]) (by simp) rfl h

set_option maxRecDepth 100000 in
theorem cloneS_any (s : ByteArray) (w : World) (hs : s.size ≤ 4000) : Calls Tryd.prog 52 #[.string s] w fun e w' => e = .returned (.string s) ∧ Below w.heap.size w w' := by
  have HC := hid (Tryd.stringslite_Clone s w (by omega))
  go_enter Tryd.func52, Tryd.ntmps52
  go_wp2_with fail
  refine HC.out.mono ?_
  rintro e w1 ⟨rfl, hb⟩
  have HB := hid hb
  clear hb
  go_wp2_with fail
  go_ret
  exact ⟨rfl, HB.out⟩

end Go.Proofs.YthpkcageimhgaaaDoor

namespace Go.Proofs.YthpkcageimhgaaaDoor
open Go.RowKit

theorem pTake_out {L : List UInt8} {k a : Nat} : pTake L k a ≠ .out := by
  unfold pTake
  split <;> (intro h; cases h)
theorem pTake_ok {L : List UInt8} {k a j : Nat} {t : Tok} (h : pTake L k a = .ok t j) : t = tok L a ∧ j = (tok L a).nx ∧ (tok L a).kind = k := by
  unfold pTake at h
  split at h
  · rename_i hk
    injection h with h1 h2
    exact ⟨h1.symm, h2.symm, hk⟩
  · cases h
set_option maxRecDepth 100000 in
set_option maxHeartbeats 1000000 in
theorem nameX (R : Nat) (T : ByteArray) (j l : Nat) (w : World) (hR : RdAt w R T j l) :
    Calls Tryd.prog 38 #[.pointer (some ⟨R, 0, none⟩)] w (Rx w R T l l VNam (pName (by' T) j)) := by
  obtain ⟨V, hV⟩ : ∃ V, V = w.alloc (.cells #[.string ⟨#[]⟩, .int .i64 0] 36) := ⟨_, rfl⟩
  have hb0 : Below w.heap.size w V := by rw [hV]; exact (Below.refl _ _).alloc (Nat.le_refl _) _
  have hv0 : V.heap[w.heap.size]? = some (.cells #[.string ⟨#[]⟩, .int .i64 0] 36 (0, 0)) := by rw [hV]; exact heap_alloc_new w _
  have HT := hid (takeX R T j l 2 V (hR.below hb0))
  have hlt := hR.lt
  have HSM := hid hR.small
  have HJ := hid hR.le
  have HB0 := hid hb0
  have HV0 := hid hv0
  have HFV : Hid (∀ W, Fr R V W → Fr R w W) := fun W h => (Fr.below HB0.out (Nat.le_of_lt hlt)).trans h
  unfold pName
  clear hR hb0 hv0
  cases hp : pTake (by' T) 2 j with
  | out => exact absurd hp pTake_out
  | bad er at' =>
    rw [hp] at HT
    show Calls _ _ _ _ (Rx w R T l l VNam (.bad er at'))
    clear hp
    go_enter Tryd.func38, Tryd.ntmps38
    go_wp2_with fail
    rw [← hV]
    refine HT.out.mono ?_
    rintro e w1 ⟨h1, rfl, h2⟩
    exact ⟨rfl, HFV.out _ h1, rfl, h2⟩
  | ok t a =>
    rw [hp] at HT
    show Calls _ _ _ _ (Rx w R T l l VNam (if 16 < t.text.length then .bad 3 t.at' else .ok (t.text, t.at') a))
    obtain ⟨e1, _, _⟩ := pTake_ok hp
    have htl : t.text.length ≤ 4000 := by
      have h1 := tok_at (by' T) j (by rw [by_len]; exact HJ.out)
      rw [by_len] at h1
      have h2 : (tok (by' T) j).nx = (tok (by' T) j).at' + (tok (by' T) j).text.length := rfl
      have := HSM.out
      rw [e1]
      omega
    have hsz := bs_size t.text
    clear hp e1
    by_cases hg : 16 < t.text.length
    · rw [if_pos hg]
      have hgi : (16 : Int) < ((bs t.text).size : Int) := by omega
      clear hsz
      go_enter Tryd.func38, Tryd.ntmps38
      go_wp2_with fail
      rw [← hV]
      refine HT.out.mono ?_
      rintro e w1 ⟨h1, v, rfl, rfl, h2⟩
      have H1 := hid (HFV.out _ h1)
      have H2 := hid h2
      clear h1 h2 hV
      unfold tokv
      go_wp2_with fail
      exact ⟨rfl, H1.out.alloc hlt _, rfl, a, H2.out.below ((Below.refl _ _).alloc (Nat.le_refl _) _)⟩
    · rw [if_neg hg]
      have hgi : ¬ (16 : Int) < ((bs t.text).size : Int) := by omega
      have HCL := hid (fun W => cloneS_any (bs t.text) W (by omega))
      have hmx : Tryd.prog.follows .mixedOrders = true := by kernel_rfl
      clear hsz
      go_enter Tryd.func38, Tryd.ntmps38
      go_wp2_with fail
      rw [← hV]
      refine HT.out.mono ?_
      rintro e w1 ⟨h1, v, rfl, rfl, h2⟩
      obtain ⟨W1, hW1⟩ : ∃ W1, W1 = w1.alloc (.cells #[.int .i64 (t.kind : Int), .int .i64 (t.at' : Int), .string (bs t.text)] 66) := ⟨_, rfl⟩
      have hbw : Below w1.heap.size w1 W1 := by rw [hW1]; exact (Below.refl _ _).alloc (Nat.le_refl _) _
      have hw1 : W1.heap[w1.heap.size]? = some (.cells #[.int .i64 (t.kind : Int), .int .i64 (t.at' : Int), .string (bs t.text)] 66 (0, 0)) := by rw [hW1]; exact heap_alloc_new w1 _
      have hvw : w1.heap[w.heap.size]? = some (.cells #[.string ⟨#[]⟩, .int .i64 0] 36 (0, 0)) := (h1.2 _ (Array.getElem?_eq_some_iff.1 HV0.out).1 (by omega)).trans HV0.out
      have hv1 : W1.heap[w.heap.size]? = some (.cells #[.string ⟨#[]⟩, .int .i64 0] 36 (0, 0)) := (hbw.block _ (Array.getElem?_eq_some_iff.1 hvw).1).trans hvw
      have hcc : w1.heap.size ≠ w.heap.size := by have := (Array.getElem?_eq_some_iff.1 hvw).1; omega
      have H1 := hid ((HFV.out _ h1).more hbw hlt)
      have H2 := hid (h2.below hbw)
      have hz1 : W1.heap.size = w1.heap.size + 1 := by rw [hW1]; simp
      have hlw : w.heap.size < W1.heap.size := (Array.getElem?_eq_some_iff.1 hv1).1
      have HKE : Hid (∀ W, Below W1.heap.size W1 W → W.cell? ⟨w1.heap.size, 1, none⟩ = some (.int .i64 (t.at' : Int)) ∧ W.cell? ⟨w1.heap.size, 2, none⟩ = some (.string (bs t.text))) := fun W h => by
        have h5 := (h.block _ (by omega)).trans hw1
        exact ⟨by simp [World.cell?, h5], by simp [World.cell?, h5]⟩
      have HKX : Hid (∀ (W : World) (x y : Value), (W.cell? ⟨w1.heap.size, 1, none⟩ = some (.int .i64 (t.at' : Int)) ∧ W.cell? ⟨w1.heap.size, 2, none⟩ = some (.string (bs t.text))) → (((W.setCell ⟨w.heap.size, 0, none⟩ x).setCell ⟨w.heap.size, 1, none⟩ y).cell? ⟨w1.heap.size, 1, none⟩ = some (.int .i64 (t.at' : Int)) ∧ ((W.setCell ⟨w.heap.size, 0, none⟩ x).setCell ⟨w.heap.size, 1, none⟩ y).cell? ⟨w1.heap.size, 2, none⟩ = some (.string (bs t.text)))) := fun W x y h => by
        have o : ∀ i, ((W.setCell ⟨w.heap.size, 0, none⟩ x).setCell ⟨w.heap.size, 1, none⟩ y).cell? ⟨w1.heap.size, i, none⟩ = W.cell? ⟨w1.heap.size, i, none⟩ := fun i => by
          rw [World.cell?_setCell_other _ _ _ _ (fun e => by injection e with e; omega), World.cell?_setCell_other _ _ _ _ (fun e => by injection e with e; omega)]
        exact ⟨(o _).trans h.1, (o _).trans h.2⟩
      have HVV : Hid (∀ W, Below W1.heap.size W1 W → W.heap[w.heap.size]? = some (.cells #[.string ⟨#[]⟩, .int .i64 0] 36 (0, 0))) := fun W h => (h.block _ hlw).trans hv1
      have hb00 : Below W1.heap.size W1 W1.drew := (Below.refl _ _).drew
      have HCA := hid ((HCL.out W1.drew).mono (R' := fun e w' => e = .returned (.string (bs t.text)) ∧ Below W1.heap.size W1 w') (fun e w' h => ⟨h.1, hb00.trans h.2⟩))
      have k1 : W1.cell? ⟨w1.heap.size, 1, none⟩ = some (.int .i64 (t.at' : Int)) := by simp [World.cell?, hw1]
      have k2 : W1.cell? ⟨w1.heap.size, 2, none⟩ = some (.string (bs t.text)) := by simp [World.cell?, hw1]
      clear h1 h2 hV hbw hw1 hvw hv1 hcc hz1 hlw
      unfold tokv
      replace hW1 := hW1.symm
      obtain ⟨tx, htx⟩ : ∃ tx, bs t.text = tx := ⟨_, rfl⟩
      have HTX := hid htx
      rw [htx] at HKE HKX HCA k2 hgi hW1 ⊢
      clear htx
      go_wp2_with fail
      clear hW1
      go_region_held3 (fun W => W.cell? ⟨w1.heap.size, 1, none⟩ = some (.int .i64 (t.at' : Int)) ∧ W.cell? ⟨w1.heap.size, 2, none⟩ = some (.string tx)) (first | exact HKE.out _ (by assumption) | exact HKX.out _ _ _ (by refine ⟨?_, ?_⟩ <;> assumption))
        (first
          | (go_at_call 52; refine HCA.out.mono ?_; rintro e w' ⟨rfl, hb1⟩; obtain ⟨s1, s2⟩ := HKE.out w' hb1; have hvv := HVV.out w' hb1; have x0 : w'.cell? ⟨w.heap.size, 0, none⟩ = some (.string ⟨#[]⟩) := (by simp [World.cell?, hvv]); have x1 : w'.cell? ⟨w.heap.size, 1, none⟩ = some (.int .i64 0) := (by simp [World.cell?, hvv]); have xf := fun i => frozen_of_row w' w.heap.size i _ _ hvv))
      have hh := heap_setCell_same _ w.heap.size 1 _ _ (.int .i64 (t.at' : Int)) (heap_setCell_same w' w.heap.size 0 _ _ (.string tx) hvv)
      have HH := hid hh
      have hF := ((H1.out.more hb1 hlt).setNew (Nat.le_refl _) hlt 0 (.string tx)).setNew (Nat.le_refl _) hlt 1 (.int .i64 (t.at' : Int))
      have HF := hid hF
      have hb9 : Below w.heap.size w' ((w'.setCell ⟨w.heap.size, 0, none⟩ (.string tx)).setCell ⟨w.heap.size, 1, none⟩ (.int .i64 (t.at' : Int))) := ((Below.refl _ _).setCell (p := ⟨w.heap.size, 0, none⟩) (Nat.le_refl _) _).setCell (p := ⟨w.heap.size, 1, none⟩) (Nat.le_refl _) _
      have hr3 := H2.out.below hb1
      have HR3 : Hid (RdAt ((w'.setCell ⟨w.heap.size, 0, none⟩ (.string tx)).setCell ⟨w.heap.size, 1, none⟩ (.int .i64 (t.at' : Int))) R T a l) := ⟨(hb9.block R hlt).trans hr3.h, hr3.le, hr3.small, hr3.ev.below (hb9.mono (Nat.le_of_lt hlt))⟩
      generalize (w'.setCell ⟨w.heap.size, 0, none⟩ (.string tx)).setCell ⟨w.heap.size, 1, none⟩ (.int .i64 (t.at' : Int)) = W9 at *
      clear hh hF hb9 hr3 s1 s2 x0 x1 xf hvv HCA HKE HKX HVV k1 k2
      go_wp2_with fail
      refine bodyPost_ret (results_cell_row rfl _ _ w.heap.size 36 #[.string tx, .int .i64 (t.at' : Int)] (0, 0) _ rfl (by exact HH.out) Tryd.underlying36 rfl (by kernel_rfl)) rfl ?_
      refine ⟨HF.out, _, rfl, ?_, HR3.out⟩
      unfold VNam namv
      rw [HTX.out]

/-! ## numbers -/
theorem foldV_ge : ∀ (l : List UInt8) (n : Nat), n ≤ l.foldl (fun n c => n * 10 + (c.toNat - 48)) n
  | [], n => Nat.le_refl _
  | c :: r, n => by
    have := foldV_ge r (n * 10 + (c.toNat - 48))
    simp only [List.foldl_cons]
    omega
theorem isDg_iff (c : UInt8) : isDg c = true ↔ 48 ≤ c.toNat ∧ c.toNat ≤ 57 := by
  unfold isDg
  simp [UInt8.le_iff_toNat_le]
theorem pu10 : ∀ (l : List UInt8) (n : Nat), l.all isDg = true → n < 18446744073709551616 → Lib.parseUint10 n l = if 18446744073709551616 ≤ l.foldl (fun n c => n * 10 + (c.toNat - 48)) n then .range else .ok (l.foldl (fun n c => n * 10 + (c.toNat - 48)) n)
  | [], n, _, hn => by
    rw [Lib.parseUint10, if_neg (by simp; omega)]
    rfl
  | c :: r, n, h, hn => by
    simp only [List.all_cons, Bool.and_eq_true] at h
    have hc := (isDg_iff c).1 h.1
    have hg := foldV_ge r (n * 10 + (c.toNat - 48))
    rw [Lib.parseUint10, if_pos hc, List.foldl_cons]
    by_cases h1 : 1844674407370955162 ≤ n
    · rw [if_pos h1, if_pos (by omega)]
    · rw [if_neg h1]
      by_cases h2 : 18446744073709551616 ≤ n * 10 + (c.toNat - 48)
      · rw [if_pos h2, if_pos (by omega)]
      · rw [if_neg h2]
        exact pu10 r _ h.2 (by omega)
theorem atoi_num (l : List UInt8) (h0 : l ≠ []) (h : l.all isDg = true) : Lib.atoiAll l = if 9223372036854775807 < numV l then .range else .ok (numV l : Int) := by
  cases l with
  | nil => exact absurd rfl h0
  | cons c r =>
    have hc : 48 ≤ c.toNat ∧ c.toNat ≤ 57 := by
      simp only [List.all_cons, Bool.and_eq_true] at h
      exact (isDg_iff c).1 h.1
    have h1 : ¬ (c.toNat = 43 ∨ c.toNat = 45) := by omega
    have h2 : ¬ c.toNat = 45 := by omega
    have hp : Lib.parseMag (c :: r) = if 18446744073709551616 ≤ numV (c :: r) then .range else .ok (numV (c :: r)) := by
      unfold Lib.parseMag
      rw [if_neg (by simp), pu10 (c :: r) 0 h (by omega)]
      rfl
    simp only [Lib.atoiAll, if_neg h1]
    rw [hp]
    by_cases h3 : 18446744073709551616 ≤ numV (c :: r)
    · rw [if_pos h3, if_pos (by omega)]
    · rw [if_neg h3]
      by_cases h4 : 9223372036854775807 < numV (c :: r)
      · simp [h2, h4]
        omega
      · simp [h2, h4]
        omega
theorem tok3 {L : List UInt8} {a : Nat} (h : (tok L a).kind = 3) : (tok L a).text ≠ [] ∧ (tok L a).text.all isDg = true := by
  unfold tok at h ⊢
  generalize blank (L.drop a) = r at h ⊢
  unfold tokR at h ⊢
  split at h
  · simp at h
  · rename_i hr
    rw [if_neg hr]
    split at h
    · rename_i ht
      rw [if_pos ht]
      refine ⟨ht, ?_⟩
      cases hx : r.takeWhile inWd with
      | nil => exact absurd hx ht
      | cons c q =>
        rw [hx] at h
        simp only [wkd] at h
        split at h
        · exact absurd h (kwd_ne _).2.2.2
        · split at h
          · cases h
          · split at h
            · assumption
            · cases h
    · rename_i ht
      have h5 := (sgn_two r).1.2.1
      have h6 : (sgn r).1 = 3 := h
      omega

end Go.Proofs.YthpkcageimhgaaaDoor
