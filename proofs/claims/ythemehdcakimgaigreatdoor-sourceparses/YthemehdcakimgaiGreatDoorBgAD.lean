/- Package source: the reader begins and ends levels, reads names. Package source: the reader reads names. Package source: trees in memory; the reader reads numbers. -/
import Derived.Test.YthemehdcakimgaiGreatDoorBgAC
namespace Go.Proofs.YthemehdcakimgaiGreatDoor
open Go.RowKit

/-- how a reading ends: V says what a value stands for -/
def Rx {α : Type} (w : World) (R : Nat) (T : ByteArray) (l l' : Nat) (V : World → Value → α → Prop) (r : Res α) (e : Ending) (w' : World) : Prop := Fr R w w' ∧ match r with
  | .ok x j => ∃ v, e = .returned v ∧ V w' v x ∧ RdAt w' R T j l'
  | .bad er at' => e = pncF at' er ∧ ∃ j, RdAt w' R T j l
  | .out => False
def VTok : World → Value → Tok → Prop := fun _ v t => v = tokv t
def VNone : World → Value → Unit → Prop := fun _ v _ => v = .tuple #[]
/-- a name in memory -/
def namv (nm : List UInt8 × Nat) : Value := .agg #[.string (bs nm.1), .int .i64 (nm.2 : Int)]
def VNam : World → Value → List UInt8 × Nat → Prop := fun _ v nm => v = namv nm

theorem takeX (R : Nat) (T : ByteArray) (j l k : Nat) (w : World) (hR : RdAt w R T j l) :
    Calls Tryz.prog 72 #[.pointer (some ⟨R, 0, none⟩), .int .i64 (k : Int)] w (Rx w R T l l VTok (pTake (by' T) k j)) := by
  unfold pTake
  by_cases hk : (tok (by' T) j).kind = k
  · rw [if_pos hk]
    refine (take_yes R T j l k w hR hk).mono ?_
    rintro e w' ⟨rfl, h1, h2⟩
    exact ⟨h1, _, rfl, rfl, h2⟩
  · rw [if_neg hk]
    refine (take_no R T j l k w hR hk).mono ?_
    rintro e w' ⟨rfl, h1⟩
    exact ⟨Fr.below h1 (Nat.le_of_lt hR.lt), rfl, j, hR.below h1⟩

/-- the level alone has turned -/
theorem RdAt.level {w : World} {R : Nat} {T : ByteArray} {j l : Nat} (h : RdAt w R T j l) (m : Nat) : RdAt (w.setCell ⟨R, 4, none⟩ (.int .i64 (m : Int))) R T j m :=
  ⟨heap_setCell_same _ R 4 _ _ _ h.h, h.le, h.small, h.ev.below ((Below.refl R w).setCell (p := ⟨R, 4, none⟩) (Nat.le_refl _) _)⟩

theorem fld_tok (a b c : Value) (w : World) : (Instr.field 101 (.agg #[a, b, c]) 1).run Tryz.prog w = .ok b w := by
  simp [Instr.field, run_underlying Tryz.underlying101, part, Tryz.isAgg3, Result.andThen]
  rfl

set_option maxRecDepth 100000 in
set_option maxHeartbeats 400000 in
theorem enterX (R : Nat) (T : ByteArray) (j l k : Nat) (w : World) (hR : RdAt w R T j l) (hl : l ≤ 64) :
    Calls Tryz.prog 92 #[.pointer (some ⟨R, 0, none⟩), .int .i64 (k : Int)] w (Rx w R T l (l + 1) VNone (pEnter (by' T) k j l)) := by
  have HT := hid (takeX R T j l k w hR)
  have hlt := hR.lt
  unfold pEnter
  clear hR
  cases hp : pTake (by' T) k j with
  | out => unfold pTake at hp; split at hp <;> cases hp
  | bad er at' =>
    rw [hp] at HT
    show Calls _ _ _ _ (Rx w R T l (l + 1) VNone (.bad er at'))
    clear hp
    go_enter Tryz.func92, Tryz.ntmps92
    go_wp2_with fail
    refine HT.out.mono ?_
    rintro e w1 ⟨h1, rfl, h2⟩
    exact ⟨rfl, h1, rfl, h2⟩
  | ok t a =>
    rw [hp] at HT
    show Calls _ _ _ _ (Rx w R T l (l + 1) VNone (if l = 64 then .bad 9 t.at' else .ok () a))
    clear hp
    by_cases h64 : l = 64
    · rw [if_pos h64]
      have q : ((l : Int) == 64) = true := by rw [h64]; rfl
      go_enter Tryz.func92, Tryz.ntmps92
      go_wp2_with fail
      refine HT.out.mono ?_
      rintro e w1 ⟨h1, v, rfl, rfl, h2⟩
      have H1 := hid h1
      have H2 := hid h2
      have c4 : w1.cell? ⟨R, 4, none⟩ = some (.int .i64 (l : Int)) := by simp [World.cell?, h2.h]
      clear h1 h2 h64
      unfold tokv
      have hfd := fun W => fld_tok (.int .i64 (t.kind : Int)) (.int .i64 (t.at' : Int)) (.string (bs t.text)) W
      go_wp2_with fail
      exact ⟨rfl, H1.out, rfl, a, H2.out⟩
    · rw [if_neg h64]
      have q : ((l : Int) == 64) = false := by simp; omega
      have hwr : IntKind.i64.wrap ((l : Int) + 1) = (l : Int) + 1 := by rw [IntKind.wrap_i64]; omega
      go_enter Tryz.func92, Tryz.ntmps92
      go_wp2_with fail
      refine HT.out.mono ?_
      rintro e w1 ⟨h1, v, rfl, rfl, h2⟩
      have H1 := hid h1
      have H2 := hid h2
      have c4 : w1.cell? ⟨R, 4, none⟩ = some (.int .i64 (l : Int)) := by simp [World.cell?, h2.h]
      have cf := frozen_of_row w1 R 4 _ _ h2.h
      clear h1 h2 h64
      unfold tokv
      have hfd := fun W => fld_tok (.int .i64 (t.kind : Int)) (.int .i64 (t.at' : Int)) (.string (bs t.text)) W
      go_wp2_with fail
      go_end0
      exact ⟨H1.out.set 4 _, _, rfl, rfl, H2.out.level (l + 1)⟩

theorem leave_wp (R : Nat) (T : ByteArray) (j l : Nat) (w : World) (hR : RdAt w R T j (l + 1)) (hl : l ≤ 64) (u : FrameMode) :
    CallsD Tryz.prog 93 #[.pointer (some ⟨R, 0, none⟩)] u w fun e u' w' => u' = u ∧ e = .returned (.tuple #[]) ∧ w' = w.setCell ⟨R, 4, none⟩ (.int .i64 (l : Int)) := by
  have c4 : w.cell? ⟨R, 4, none⟩ = some (.int .i64 (((l + 1 : Nat)) : Int)) := by simp [World.cell?, hR.h]
  have cf := frozen_of_row w R 4 _ _ hR.h
  have hwr : IntKind.i64.wrap (((l + 1 : Nat) : Int) - 1) = (l : Int) := by rw [IntKind.wrap_i64]; omega
  generalize ((l + 1 : Nat) : Int) = m at c4 hwr
  clear hR
  refine callsD_of_wp (R := fun e w' => e = .returned (.tuple #[]) ∧ w' = w.setCell ⟨R, 4, none⟩ (.int .i64 (l : Int))) Tryz.func93 rfl ?_
  rw [Tryz.ntmps93]
  simp only [List.size_toArray, List.length_cons, List.length_nil]
  go_wp2_with fail
  go_end0
  exact ⟨rfl, rfl⟩

/-- at the door of a function that has begun a level: it is ended, whatever comes -/
theorem leave_door {fn : Func} {tmps : Array Value} {Q : Ending → World → Prop} {R : Nat} {T : ByteArray} {j l : Nat} {w : World} (hR : RdAt w R T j (l + 1)) (hl : l ≤ 64) (u : FrameMode) (hu : u ≠ .run) (hs : settle u = u)
    (h : Leaves Tryz.prog fn tmps Q [] u (w.setCell ⟨R, 4, none⟩ (.int .i64 (l : Int)))) :
    Leaves Tryz.prog fn tmps Q [{ target := .fn (.func 93) #[], args := #[.pointer (some ⟨R, 0, none⟩)] }] u w := by
  refine leaves_cons (f := 93) (args := #[.pointer (some ⟨R, 0, none⟩)]) hu (by simp [go_sem]) ?_
  refine (leave_wp R T j l w hR hl u).mono ?_
  rintro e u' w' ⟨rfl, rfl, rfl⟩
  show Leaves _ _ _ _ _ (settle u') _
  rw [hs]
  exact h
/-- what a level was begun for comes to its end -/
theorem leave_ret {fn : Func} {tmps : Array Value} {Q : Ending → World → Prop} {R : Nat} {T : ByteArray} {j l : Nat} {w : World} {v : Value} (hR : RdAt w R T j (l + 1)) (hl : l ≤ 64)
    (hv : (results fn tmps).run Tryz.prog (w.setCell ⟨R, 4, none⟩ (.int .i64 (l : Int))) = .ok v (w.setCell ⟨R, 4, none⟩ (.int .i64 (l : Int)))) (h : Q (.returned v) (w.setCell ⟨R, 4, none⟩ (.int .i64 (l : Int)))) :
    Leaves Tryz.prog fn tmps Q [{ target := .fn (.func 93) #[], args := #[.pointer (some ⟨R, 0, none⟩)] }] .returning w :=
  leave_door hR hl .returning (by simp) rfl ⟨v, hv, h⟩
/-- .. or to a fault -/
theorem leave_pnc {fn : Func} {tmps : Array Value} {Q : Ending → World → Prop} {R : Nat} {T : ByteArray} {j l : Nat} {w : World} {v : Value} (hR : RdAt w R T j (l + 1)) (hl : l ≤ 64)
    (h : Q (.panicked [{ v := v, recovered := false }]) (w.setCell ⟨R, 4, none⟩ (.int .i64 (l : Int)))) :
    Leaves Tryz.prog fn tmps Q [{ target := .fn (.func 93) #[], args := #[.pointer (some ⟨R, 0, none⟩)] }] (.panicking [{ v := v, recovered := false }]) w :=
  leave_door hR hl (.panicking [{ v := v, recovered := false }]) (by simp) rfl h

set_option maxRecDepth 100000 in
theorem cloneS_any (s : ByteArray) (w : World) (hs : s.size ≤ 4000) : Calls Tryz.prog 91 #[.string s] w fun e w' => e = .returned (.string s) ∧ Below w.heap.size w w' := by
  have HC := hid (Tryz.stringslite_Clone s w (by omega))
  go_enter Tryz.func91, Tryz.ntmps91
  go_wp2_with fail
  refine HC.out.mono ?_
  rintro e w1 ⟨rfl, hb⟩
  have HB := hid hb
  clear hb
  go_wp2_with fail
  go_ret
  exact ⟨rfl, HB.out⟩

end Go.Proofs.YthemehdcakimgaiGreatDoor

namespace Go.Proofs.YthemehdcakimgaiGreatDoor
open Go.RowKit

theorem pTake_out {L : List UInt8} {k a : Nat} : pTake L k a ≠ .out := by
  unfold pTake
  split <;> (intro h; cases h)
theorem pTake_ok {L : List UInt8} {k a j : Nat} {t : Tok} (h : pTake L k a = .ok t j) : t = tok L a ∧ j = (tok L a).nx ∧ (tok L a).kind = k := by
  unfold pTake at h
  split at h
  · rename_i hk
    injection h with h1 h2
    exact ⟨h1.symm, h2.symm, hk⟩
  · cases h
theorem Fr.allocL {R : Nat} {w w1 : World} {o : Obj} (h : Fr R (w.alloc o) w1) (hR : R < w.heap.size) : Fr R w w1 := (Fr.below ((Below.refl _ _).alloc (Nat.le_refl _) o) (Nat.le_of_lt hR)).trans h

set_option maxRecDepth 100000 in
set_option maxHeartbeats 1000000 in
theorem nameX (R : Nat) (T : ByteArray) (j l : Nat) (w : World) (hR : RdAt w R T j l) :
    Calls Tryz.prog 73 #[.pointer (some ⟨R, 0, none⟩)] w (Rx w R T l l VNam (pName (by' T) j)) := by
  obtain ⟨V, hV⟩ : ∃ V, V = w.alloc (.cells #[.string ⟨#[]⟩, .int .i64 0] 50) := ⟨_, rfl⟩
  have hb0 : Below w.heap.size w V := by rw [hV]; exact (Below.refl _ _).alloc (Nat.le_refl _) _
  have hv0 : V.heap[w.heap.size]? = some (.cells #[.string ⟨#[]⟩, .int .i64 0] 50 (0, 0)) := by rw [hV]; exact heap_alloc_new w _
  have HT := hid (takeX R T j l 2 V (hR.below hb0))
  have hlt := hR.lt
  have HSM := hid hR.small
  have HJ := hid hR.le
  have HB0 := hid hb0
  have HV0 := hid hv0
  have HFV : Hid (∀ W, Fr R V W → Fr R w W) := fun W h => (Fr.below HB0.out (Nat.le_of_lt hlt)).trans h
  unfold pName
  clear hR hb0 hv0
  cases hp : pTake (by' T) 2 j with
  | out => exact absurd hp pTake_out
  | bad er at' =>
    rw [hp] at HT
    show Calls _ _ _ _ (Rx w R T l l VNam (.bad er at'))
    clear hp
    go_enter Tryz.func73, Tryz.ntmps73
    go_wp2_with fail
    rw [← hV]
    refine HT.out.mono ?_
    rintro e w1 ⟨h1, rfl, h2⟩
    exact ⟨rfl, HFV.out _ h1, rfl, h2⟩
  | ok t a =>
    rw [hp] at HT
    show Calls _ _ _ _ (Rx w R T l l VNam (if 16 < t.text.length then .bad 3 t.at' else .ok (t.text, t.at') a))
    obtain ⟨e1, _, _⟩ := pTake_ok hp
    have htl : t.text.length ≤ 4000 := by
      have h1 := tok_at (by' T) j (by rw [by_len]; exact HJ.out)
      rw [by_len] at h1
      have h2 : (tok (by' T) j).nx = (tok (by' T) j).at' + (tok (by' T) j).text.length := rfl
      have := HSM.out
      rw [e1]
      omega
    have hsz := bs_size t.text
    clear hp e1
    by_cases hg : 16 < t.text.length
    · rw [if_pos hg]
      have hgi : (16 : Int) < ((bs t.text).size : Int) := by omega
      clear hsz
      go_enter Tryz.func73, Tryz.ntmps73
      go_wp2_with fail
      rw [← hV]
      refine HT.out.mono ?_
      rintro e w1 ⟨h1, v, rfl, rfl, h2⟩
      have H1 := hid (HFV.out _ h1)
      have H2 := hid h2
      clear h1 h2 hV
      unfold tokv
      go_wp2_with fail
      exact ⟨rfl, H1.out.alloc hlt _, rfl, a, H2.out.below ((Below.refl _ _).alloc (Nat.le_refl _) _)⟩
    · rw [if_neg hg]
      have hgi : ¬ (16 : Int) < ((bs t.text).size : Int) := by omega
      have HCL := hid (fun W => cloneS_any (bs t.text) W (by omega))
      have hmx : Tryz.prog.follows .mixedOrders = true := by kernel_rfl
      clear hsz
      go_enter Tryz.func73, Tryz.ntmps73
      go_wp2_with fail
      rw [← hV]
      refine HT.out.mono ?_
      rintro e w1 ⟨h1, v, rfl, rfl, h2⟩
      obtain ⟨W1, hW1⟩ : ∃ W1, W1 = w1.alloc (.cells #[.int .i64 (t.kind : Int), .int .i64 (t.at' : Int), .string (bs t.text)] 101) := ⟨_, rfl⟩
      have hbw : Below w1.heap.size w1 W1 := by rw [hW1]; exact (Below.refl _ _).alloc (Nat.le_refl _) _
      have hw1 : W1.heap[w1.heap.size]? = some (.cells #[.int .i64 (t.kind : Int), .int .i64 (t.at' : Int), .string (bs t.text)] 101 (0, 0)) := by rw [hW1]; exact heap_alloc_new w1 _
      have hvw : w1.heap[w.heap.size]? = some (.cells #[.string ⟨#[]⟩, .int .i64 0] 50 (0, 0)) := (h1.2 _ (Array.getElem?_eq_some_iff.1 HV0.out).1 (by omega)).trans HV0.out
      have hv1 : W1.heap[w.heap.size]? = some (.cells #[.string ⟨#[]⟩, .int .i64 0] 50 (0, 0)) := (hbw.block _ (Array.getElem?_eq_some_iff.1 hvw).1).trans hvw
      have hcc : w1.heap.size ≠ w.heap.size := by have := (Array.getElem?_eq_some_iff.1 hvw).1; omega
      have H1 := hid ((HFV.out _ h1).more hbw hlt)
      have H2 := hid (h2.below hbw)
      have hz1 : W1.heap.size = w1.heap.size + 1 := by rw [hW1]; simp
      have hlw : w.heap.size < W1.heap.size := (Array.getElem?_eq_some_iff.1 hv1).1
      have HKE : Hid (∀ W, Below W1.heap.size W1 W → W.cell? ⟨w1.heap.size, 1, none⟩ = some (.int .i64 (t.at' : Int)) ∧ W.cell? ⟨w1.heap.size, 2, none⟩ = some (.string (bs t.text))) := fun W h => by
        have h5 := (h.block _ (by omega)).trans hw1
        exact ⟨by simp [World.cell?, h5], by simp [World.cell?, h5]⟩
      have HKX : Hid (∀ (W : World) (x y : Value), (W.cell? ⟨w1.heap.size, 1, none⟩ = some (.int .i64 (t.at' : Int)) ∧ W.cell? ⟨w1.heap.size, 2, none⟩ = some (.string (bs t.text))) → (((W.setCell ⟨w.heap.size, 0, none⟩ x).setCell ⟨w.heap.size, 1, none⟩ y).cell? ⟨w1.heap.size, 1, none⟩ = some (.int .i64 (t.at' : Int)) ∧ ((W.setCell ⟨w.heap.size, 0, none⟩ x).setCell ⟨w.heap.size, 1, none⟩ y).cell? ⟨w1.heap.size, 2, none⟩ = some (.string (bs t.text)))) := fun W x y h => by
        have o : ∀ i, ((W.setCell ⟨w.heap.size, 0, none⟩ x).setCell ⟨w.heap.size, 1, none⟩ y).cell? ⟨w1.heap.size, i, none⟩ = W.cell? ⟨w1.heap.size, i, none⟩ := fun i => by
          rw [World.cell?_setCell_other _ _ _ _ (fun e => by injection e with e; omega), World.cell?_setCell_other _ _ _ _ (fun e => by injection e with e; omega)]
        exact ⟨(o _).trans h.1, (o _).trans h.2⟩
      have HVV : Hid (∀ W, Below W1.heap.size W1 W → W.heap[w.heap.size]? = some (.cells #[.string ⟨#[]⟩, .int .i64 0] 50 (0, 0))) := fun W h => (h.block _ hlw).trans hv1
      have hb00 : Below W1.heap.size W1 W1.drew := (Below.refl _ _).drew
      have HCA := hid ((HCL.out W1.drew).mono (R' := fun e w' => e = .returned (.string (bs t.text)) ∧ Below W1.heap.size W1 w') (fun e w' h => ⟨h.1, hb00.trans h.2⟩))
      have k1 : W1.cell? ⟨w1.heap.size, 1, none⟩ = some (.int .i64 (t.at' : Int)) := by simp [World.cell?, hw1]
      have k2 : W1.cell? ⟨w1.heap.size, 2, none⟩ = some (.string (bs t.text)) := by simp [World.cell?, hw1]
      clear h1 h2 hV hbw hw1 hvw hv1 hcc hz1 hlw
      unfold tokv
      replace hW1 := hW1.symm
      obtain ⟨tx, htx⟩ : ∃ tx, bs t.text = tx := ⟨_, rfl⟩
      have HTX := hid htx
      rw [htx] at HKE HKX HCA k2 hgi hW1 ⊢
      clear htx
      go_wp2_with fail
      clear hW1
      go_region_held3 (fun W => W.cell? ⟨w1.heap.size, 1, none⟩ = some (.int .i64 (t.at' : Int)) ∧ W.cell? ⟨w1.heap.size, 2, none⟩ = some (.string tx)) (first | exact HKE.out _ (by assumption) | exact HKX.out _ _ _ (by refine ⟨?_, ?_⟩ <;> assumption))
        (first
          | (go_at_call 91; refine HCA.out.mono ?_; rintro e w' ⟨rfl, hb1⟩; obtain ⟨s1, s2⟩ := HKE.out w' hb1; have hvv := HVV.out w' hb1; have x0 : w'.cell? ⟨w.heap.size, 0, none⟩ = some (.string ⟨#[]⟩) := (by simp [World.cell?, hvv]); have x1 : w'.cell? ⟨w.heap.size, 1, none⟩ = some (.int .i64 0) := (by simp [World.cell?, hvv]); have xf := fun i => frozen_of_row w' w.heap.size i _ _ hvv))
      have hh := heap_setCell_same _ w.heap.size 1 _ _ (.int .i64 (t.at' : Int)) (heap_setCell_same w' w.heap.size 0 _ _ (.string tx) hvv)
      have HH := hid hh
      have hF := ((H1.out.more hb1 hlt).setNew (Nat.le_refl _) hlt 0 (.string tx)).setNew (Nat.le_refl _) hlt 1 (.int .i64 (t.at' : Int))
      have HF := hid hF
      have hb9 : Below w.heap.size w' ((w'.setCell ⟨w.heap.size, 0, none⟩ (.string tx)).setCell ⟨w.heap.size, 1, none⟩ (.int .i64 (t.at' : Int))) := ((Below.refl _ _).setCell (p := ⟨w.heap.size, 0, none⟩) (Nat.le_refl _) _).setCell (p := ⟨w.heap.size, 1, none⟩) (Nat.le_refl _) _
      have hr3 := H2.out.below hb1
      have HR3 : Hid (RdAt ((w'.setCell ⟨w.heap.size, 0, none⟩ (.string tx)).setCell ⟨w.heap.size, 1, none⟩ (.int .i64 (t.at' : Int))) R T a l) := ⟨(hb9.block R hlt).trans hr3.h, hr3.le, hr3.small, hr3.ev.below (hb9.mono (Nat.le_of_lt hlt))⟩
      generalize (w'.setCell ⟨w.heap.size, 0, none⟩ (.string tx)).setCell ⟨w.heap.size, 1, none⟩ (.int .i64 (t.at' : Int)) = W9 at *
      clear hh hF hb9 hr3 s1 s2 x0 x1 xf hvv HCA HKE HKX HVV k1 k2
      go_wp2_with fail
      refine bodyPost_ret (results_cell_row rfl _ _ w.heap.size 50 #[.string tx, .int .i64 (t.at' : Int)] (0, 0) _ rfl (by exact HH.out) Tryz.underlying50 rfl (by kernel_rfl)) rfl ?_
      refine ⟨HF.out, _, rfl, ?_, HR3.out⟩
      unfold VNam namv
      rw [HTX.out]

/-! ## numbers -/
theorem foldV_ge : ∀ (l : List UInt8) (n : Nat), n ≤ l.foldl (fun n c => n * 10 + (c.toNat - 48)) n
  | [], n => Nat.le_refl _
  | c :: r, n => by
    have := foldV_ge r (n * 10 + (c.toNat - 48))
    simp only [List.foldl_cons]
    omega
theorem isDg_iff (c : UInt8) : isDg c = true ↔ 48 ≤ c.toNat ∧ c.toNat ≤ 57 := by
  unfold isDg
  simp [UInt8.le_iff_toNat_le]
theorem pu10 : ∀ (l : List UInt8) (n : Nat), l.all isDg = true → n < 18446744073709551616 → Lib.parseUint10 n l = if 18446744073709551616 ≤ l.foldl (fun n c => n * 10 + (c.toNat - 48)) n then .range else .ok (l.foldl (fun n c => n * 10 + (c.toNat - 48)) n)
  | [], n, _, hn => by
    rw [Lib.parseUint10, if_neg (by simp; omega)]
    rfl
  | c :: r, n, h, hn => by
    simp only [List.all_cons, Bool.and_eq_true] at h
    have hc := (isDg_iff c).1 h.1
    have hg := foldV_ge r (n * 10 + (c.toNat - 48))
    rw [Lib.parseUint10, if_pos hc, List.foldl_cons]
    by_cases h1 : 1844674407370955162 ≤ n
    · rw [if_pos h1, if_pos (by omega)]
    · rw [if_neg h1]
      by_cases h2 : 18446744073709551616 ≤ n * 10 + (c.toNat - 48)
      · rw [if_pos h2, if_pos (by omega)]
      · rw [if_neg h2]
        exact pu10 r _ h.2 (by omega)
theorem atoi_num (l : List UInt8) (h0 : l ≠ []) (h : l.all isDg = true) : Lib.atoiAll l = if 9223372036854775807 < numV l then .range else .ok (numV l : Int) := by
  cases l with
  | nil => exact absurd rfl h0
  | cons c r =>
    have hc : 48 ≤ c.toNat ∧ c.toNat ≤ 57 := by
      simp only [List.all_cons, Bool.and_eq_true] at h
      exact (isDg_iff c).1 h.1
    have h1 : ¬ (c.toNat = 43 ∨ c.toNat = 45) := by omega
    have h2 : ¬ c.toNat = 45 := by omega
    have hp : Lib.parseMag (c :: r) = if 18446744073709551616 ≤ numV (c :: r) then .range else .ok (numV (c :: r)) := by
      unfold Lib.parseMag
      rw [if_neg (by simp), pu10 (c :: r) 0 h (by omega)]
      rfl
    simp only [Lib.atoiAll, if_neg h1]
    rw [hp]
    by_cases h3 : 18446744073709551616 ≤ numV (c :: r)
    · rw [if_pos h3, if_pos (by omega)]
    · rw [if_neg h3]
      by_cases h4 : 9223372036854775807 < numV (c :: r)
      · simp [h2, h4]
        omega
      · simp [h2, h4]
        omega
theorem tok3 {L : List UInt8} {a : Nat} (h : (tok L a).kind = 3) : (tok L a).text ≠ [] ∧ (tok L a).text.all isDg = true := by
  unfold tok at h ⊢
  generalize blank (L.drop a) = r at h ⊢
  unfold tokR at h ⊢
  split at h
  · simp at h
  · rename_i hr
    rw [if_neg hr]
    split at h
    · rename_i ht
      rw [if_pos ht]
      refine ⟨ht, ?_⟩
      cases hx : r.takeWhile inWd with
      | nil => exact absurd hx ht
      | cons c q =>
        rw [hx] at h
        simp only [wkd] at h
        split at h
        · exact absurd h (kwd_ne _).2.2.2
        · split at h
          · cases h
          · split at h
            · assumption
            · cases h
    · rename_i ht
      have h5 := (sgn_two r).1.2.1
      have h6 : (sgn r).1 = 3 := h
      omega

end Go.Proofs.YthemehdcakimgaiGreatDoor

namespace Go.Proofs.YthemehdcakimgaiGreatDoor
open Go.RowKit

mutual
/-- an expression in memory: B holds of each of its blocks -/
def PTB (B : Nat → Prop) (w : World) : Tr → Value → Prop
  | .node k nm at' n kids, v => ∃ b a c, v = .pointer (some ⟨b, 0, none⟩) ∧ B b ∧ w.heap[b]? = some (.cells #[.int .i64 (k : Int), .string (bs nm), .int .i64 (at' : Int), .int .i64 (n : Int), .slice a kids.length c] 129 (0, 0)) ∧ PTBs B w a kids 0
def PTBs (B : Nat → Prop) (w : World) (a : Option Addr) : List Tr → Nat → Prop
  | [], _ => True
  | t :: r, i => (∃ g v, a = some ⟨g, 0, none⟩ ∧ B g ∧ w.cell? ⟨g, i, none⟩ = some v ∧ PTB B w t v) ∧ PTBs B w a r (i + 1)
end
mutual
theorem PTB.keep {B B' : Nat → Prop} {w w' : World} (hk : ∀ b, B b → b < w.heap.size → B' b ∧ w'.heap[b]? = w.heap[b]?) : ∀ (t : Tr) (v : Value), PTB B w t v → PTB B' w' t v
  | .node k nm at' n kids, v, h => by
    obtain ⟨b, a, c, h1, h2, h3, h4⟩ := h
    obtain ⟨k1, k2⟩ := hk b h2 (Array.getElem?_eq_some_iff.1 h3).1
    exact ⟨b, a, c, h1, k1, k2.trans h3, PTBs.keep hk a kids 0 h4⟩
theorem PTBs.keep {B B' : Nat → Prop} {w w' : World} (hk : ∀ b, B b → b < w.heap.size → B' b ∧ w'.heap[b]? = w.heap[b]?) (a : Option Addr) : ∀ (ts : List Tr) (i : Nat), PTBs B w a ts i → PTBs B' w' a ts i
  | [], _, _ => trivial
  | t :: r, i, h => by
    obtain ⟨⟨g, v, h1, h2, h3, h4⟩, h5⟩ := h
    have hl := World.block_lt_of_cell? _ _ h3
    obtain ⟨k1, k2⟩ := hk g h2 hl
    refine ⟨⟨g, v, h1, k1, ?_, PTB.keep hk t v h4⟩, PTBs.keep hk a r (i + 1) h5⟩
    unfold World.cell? at h3 ⊢
    rw [k2]
    exact h3
end
/-- .. its blocks lie from lo on -/
def PT (lo : Nat) (w : World) (t : Tr) (v : Value) : Prop := PTB (fun b => lo ≤ b) w t v
def PTs (lo : Nat) (w : World) (a : Option Addr) (ts : List Tr) (i : Nat) : Prop := PTBs (fun b => lo ≤ b) w a ts i
theorem PT.keep {lo : Nat} {w w' : World} (hk : ∀ b, lo ≤ b → b < w.heap.size → w'.heap[b]? = w.heap[b]?) (t : Tr) (v : Value) (h : PT lo w t v) : PT lo w' t v := PTB.keep (fun b h1 h2 => ⟨h1, hk b h1 h2⟩) t v h
theorem PT.fr {R lo : Nat} {w w' : World} {t : Tr} {v : Value} (h : PT lo w t v) (f : Fr R w w') (hlo : R < lo) : PT lo w' t v := PT.keep (fun _ h1 h2 => f.keep (by omega) h2) t v h
theorem PT.below {lo : Nat} {w w' : World} {t : Tr} {v : Value} (h : PT lo w t v) (f : Below w.heap.size w w') : PT lo w' t v := PT.keep (fun b _ h2 => f.block b h2) t v h
theorem PT.mono {lo lo' : Nat} {w : World} {t : Tr} {v : Value} (h : PT lo w t v) (hl : lo' ≤ lo) : PT lo' w t v := PTB.keep (fun _ h1 _ => ⟨Nat.le_trans hl h1, rfl⟩) t v h
/-- parts that lie side by side in a block -/
theorem PTBs_of {B : Nat → Prop} {w : World} {g : Nat} (hg : B g) : ∀ (ts : List Tr) (i : Nat), (∀ j, j < ts.length → ∃ v, w.cell? ⟨g, i + j, none⟩ = some v ∧ ∀ t, ts[j]? = some t → PTB B w t v) → PTBs B w (some ⟨g, 0, none⟩) ts i
  | [], _, _ => trivial
  | t :: r, i, h => by
    obtain ⟨v, h1, h2⟩ := h 0 (by simp)
    refine ⟨⟨g, v, rfl, hg, h1, h2 t rfl⟩, PTBs_of hg r (i + 1) fun j hj => ?_⟩
    obtain ⟨v, h1, h2⟩ := h (j + 1) (by simpa using hj)
    exact ⟨v, by rw [show i + 1 + j = i + (j + 1) by omega]; exact h1, fun t ht => h2 t ht⟩
def VX (lo : Nat) : World → Value → Tr → Prop := fun w v t => PT lo w t v

set_option maxRecDepth 100000 in
set_option maxHeartbeats 1000000 in
theorem numX (R : Nat) (T : ByteArray) (j l : Nat) (w : World) (hR : RdAt w R T j l) :
    Calls Tryz.prog 123 #[.pointer (some ⟨R, 0, none⟩)] w (Rx w R T l l (VX w.heap.size) (pNum (by' T) j)) := by
  have HT := hid (takeX R T j l 3 w hR)
  have hlt := hR.lt
  have HSM := hid hR.small
  have HJ := hid hR.le
  unfold pNum
  clear hR
  cases hp : pTake (by' T) 3 j with
  | out => exact absurd hp pTake_out
  | bad er at' =>
    rw [hp] at HT
    show Calls _ _ _ _ (Rx w R T l l (VX w.heap.size) (.bad er at'))
    clear hp
    go_enter Tryz.func123, Tryz.ntmps123
    go_wp2_with fail
    refine HT.out.mono ?_
    rintro e w1 ⟨h1, rfl, h2⟩
    exact ⟨rfl, h1, rfl, h2⟩
  | ok t a =>
    rw [hp] at HT
    show Calls _ _ _ _ (Rx w R T l l (VX w.heap.size) (if 9223372036854775807 < numV t.text then .bad 3 t.at' else .ok (.node 0 [] 0 (numV t.text) []) a))
    obtain ⟨e1, _, e3⟩ := pTake_ok hp
    have h3 := tok3 e3
    rw [← e1] at h3
    have htl : t.text.length ≤ 4000 := by
      have h1 := tok_at (by' T) j (by rw [by_len]; exact HJ.out)
      rw [by_len] at h1
      have h2 : (tok (by' T) j).nx = (tok (by' T) j).at' + (tok (by' T) j).text.length := rfl
      have := HSM.out
      rw [e1]
      omega
    have hat := atoi_num t.text h3.1 h3.2
    have hsz := bs_size t.text
    have hdt : (bs t.text).data.toList = t.text := by simp [bs]
    clear hp e1 e3 h3
    by_cases hg : 9223372036854775807 < numV t.text
    · rw [if_pos hg] at hat ⊢
      have HA := hid (fun ev W hv hev => Tryz.strconv_Atoi_range (bs t.text) (by omega) (by rw [hdt]; exact hat) ev W hv hev)
      rw [hdt] at HA
      clear hsz hdt hat hg
      have hne : ∀ (x : TypeId) (y : Value) (w : World), (binOp BinOp.neq 24 (.iface x y) .nilIface).run Tryz.prog w = .ok (.bool true) w := fun x y w => by kernel_rfl
      go_enter Tryz.func123, Tryz.ntmps123
      go_wp2_with fail
      refine HT.out.mono ?_
      rintro e w1 ⟨h1, v, rfl, rfl, h2⟩
      obtain ⟨ev, he1, he2⟩ := (h2.below ((Below.refl _ _).alloc (Nat.le_refl _) (.cells #[.int .i64 (t.kind : Int), .int .i64 (t.at' : Int), .string (bs t.text)] 101))).ev.2
      have HCA := hid (HA.out ev _ he1 he2)
      have H1 := hid (h1.alloc hlt (.cells #[.int .i64 (t.kind : Int), .int .i64 (t.at' : Int), .string (bs t.text)] 101))
      have H2 := hid (h2.below ((Below.refl _ _).alloc (Nat.le_refl _) (.cells #[.int .i64 (t.kind : Int), .int .i64 (t.at' : Int), .string (bs t.text)] 101)))
      clear h1 h2 he1 he2 HA
      unfold tokv
      go_wp2_with fail
      refine HCA.out.mono ?_
      rintro e w2 ⟨N, rfl, hN, hN2, hb2⟩
      have c1 : w2.cell? ⟨w1.heap.size, 1, none⟩ = some (.int .i64 (t.at' : Int)) := (hb2.cell (p := ⟨w1.heap.size, 1, none⟩) (by simp)).trans (by unfold World.cell?; rw [heap_alloc_new]; rfl)
      have H3 := hid (H1.out.more hb2 hlt)
      have H4 := hid (H2.out.below hb2)
      clear hN hN2 hb2 HCA H1 H2
      go_wp2_with fail
      exact ⟨rfl, H3.out, rfl, a, H4.out⟩
    · rw [if_neg hg] at hat ⊢
      have HA := hid (fun W => Tryz.strconv_Atoi_ok (bs t.text) (by omega) _ (by rw [hdt]; exact hat) W)
      clear hsz hdt hat
      have heq : ∀ (w : World), (binOp BinOp.neq 24 .nilIface .nilIface).run Tryz.prog w = .ok (.bool false) w := fun w => by kernel_rfl
      go_enter Tryz.func123, Tryz.ntmps123
      go_wp2_with fail
      refine HT.out.mono ?_
      rintro e w1 ⟨h1, v, rfl, rfl, h2⟩
      have HCA := hid (HA.out (w1.alloc (.cells #[.int .i64 (t.kind : Int), .int .i64 (t.at' : Int), .string (bs t.text)] 101)))
      have H1 := hid (h1.alloc hlt (.cells #[.int .i64 (t.kind : Int), .int .i64 (t.at' : Int), .string (bs t.text)] 101))
      have H2 := hid (h2.below ((Below.refl _ _).alloc (Nat.le_refl _) (.cells #[.int .i64 (t.kind : Int), .int .i64 (t.at' : Int), .string (bs t.text)] 101)))
      clear h1 h2 HA
      unfold tokv
      go_wp2_with fail
      have HCB := hid (HCA.out.mono (R' := fun e w' => e = .returned (.tuple #[.int .i64 (numV t.text : Int), .nilIface]) ∧ Below (w1.alloc (.cells #[.int .i64 (t.kind : Int), .int .i64 (t.at' : Int), .string (bs t.text)] 101)).heap.size (w1.alloc (.cells #[.int .i64 (t.kind : Int), .int .i64 (t.at' : Int), .string (bs t.text)] 101)) w') (fun e w' h => ⟨h.1, by
        rcases h.2 with rfl | ⟨q, rfl⟩
        · exact Below.refl _ _
        · exact Lib.bytesWorld_below _ _ _⟩))
      refine HCB.out.mono ?_
      rintro e w2 ⟨rfl, hb2⟩
      have H3 := hid (H1.out.more hb2 hlt)
      have H4 := hid (H2.out.below hb2)
      clear hb2 HCA HCB H1 H2
      go_wp2_with fail
      go_ret
      have hb5 : Below w2.heap.size w2 (w2.alloc (.cells #[.int .i64 0, .string ⟨#[]⟩, .int .i64 0, .int .i64 (numV t.text : Int), .slice none 0 0] 129)) := (Below.refl _ _).alloc (Nat.le_refl _) _
      refine ⟨H3.out.more hb5 hlt, _, rfl, ?_, H4.out.below hb5⟩
      refine ⟨w2.heap.size, none, 0, rfl, ?_, heap_alloc_new w2 _, trivial⟩
      have := H3.out.size
      omega

end Go.Proofs.YthemehdcakimgaiGreatDoor
