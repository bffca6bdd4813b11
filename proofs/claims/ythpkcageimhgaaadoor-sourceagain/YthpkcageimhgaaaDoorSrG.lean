/- Package source: the reader. -/
import Derived.Test.YthpkcageimhgaaaDoorSrF
import Derived.Test.YthpkcageimhgaaaDoorShlB
import Derived.Test.YthpkcageimhgaaaDoorFld
import Derived.Deep.RegionHeld3
import Derived.Test.YthpkcageimhgaaaDoorHeldS
import Derived.Defers
namespace Go.Proofs.YthpkcageimhgaaaDoor
open Go.RowKit

/-- one block alone of those that were there may have turned -/
def Fr (R : Nat) (w w' : World) : Prop := Below R w w' ∧ ∀ b, b < w.heap.size → b ≠ R → w'.heap[b]? = w.heap[b]?
section
variable {R : Nat} {w w1 w2 : World}
theorem Fr.size (h : Fr R w w1) : w.heap.size ≤ w1.heap.size := h.1.size
theorem Fr.refl (R : Nat) (w : World) : Fr R w w := ⟨Below.refl _ _, fun _ _ _ => rfl⟩
theorem Fr.trans (h : Fr R w w1) (g : Fr R w1 w2) : Fr R w w2 := ⟨h.1.trans g.1, fun b hb hne => (g.2 b (Nat.lt_of_lt_of_le hb h.size) hne).trans (h.2 b hb hne)⟩
theorem Fr.below (h : Below w.heap.size w w1) (hR : R ≤ w.heap.size) : Fr R w w1 := ⟨h.mono hR, fun b hb _ => h.block b hb⟩
theorem Fr.more (h : Fr R w w1) (g : Below w1.heap.size w1 w2) (hR : R < w.heap.size) : Fr R w w2 := h.trans (Fr.below g (by have := h.size; omega))
theorem Fr.alloc (h : Fr R w w1) (hR : R < w.heap.size) (o : Obj) : Fr R w (w1.alloc o) := h.more ((Below.refl _ _).alloc (Nat.le_refl _) _) hR
theorem Fr.drew (h : Fr R w w1) : Fr R w w1.drew := ⟨h.1.drew, h.2⟩
theorem Fr.set (h : Fr R w w1) (i : Nat) (v : Value) : Fr R w (w1.setCell ⟨R, i, none⟩ v) :=
  ⟨h.1.setCell (p := ⟨R, i, none⟩) (Nat.le_refl _) v, fun b hb hne => (heap_setCell_other w1 ⟨R, i, none⟩ b v hne).trans (h.2 b hb hne)⟩
/-- a block of one's own -/
theorem Fr.setNew (h : Fr R w w1) {g : Nat} (hg : w.heap.size ≤ g) (hR : R < w.heap.size) (i : Nat) (v : Value) : Fr R w (w1.setCell ⟨g, i, none⟩ v) :=
  ⟨h.1.setCell (p := ⟨g, i, none⟩) (by show R ≤ g; omega) v, fun b hb hne => (heap_setCell_other w1 ⟨g, i, none⟩ b v (by show b ≠ g; omega)).trans (h.2 b hb hne)⟩
theorem Fr.keep (h : Fr R w w1) {b : Nat} (h1 : R + 1 ≤ b) (h2 : b < w.heap.size) : w1.heap[b]? = w.heap[b]? := h.2 b h2 (by omega)
theorem Fr.cell (h : Fr R w w1) {b i : Nat} {v : Value} (h1 : b ≠ R) (hc : w.cell? ⟨b, i, none⟩ = some v) : w1.cell? ⟨b, i, none⟩ = some v := by
  have hl := World.block_lt_of_cell? _ _ hc
  unfold World.cell? at hc ⊢
  rw [h.2 b hl h1]
  exact hc
end
/-- the library's own error is there -/
def EvR (w : World) (R : Nat) : Prop := 5 < R ∧ ∃ ev, w.cell? ⟨5, 0, none⟩ = some ev ∧ (ev = .nilIface ∨ ∃ te pe, ev = .iface te pe)
/-- a reader in memory: its text, the next token, how many levels -/
structure RdAt (w : World) (R : Nat) (T : ByteArray) (j l : Nat) : Prop where
  h : w.heap[R]? = some (.cells #[.string T, .int .i64 ((tok (by' T) j).kind : Int), .int .i64 ((tok (by' T) j).at' : Int), .string (bs (tok (by' T) j).text), .int .i64 (l : Int)] 69 (0, 0))
  le : j ≤ T.size
  small : T.size ≤ 4000
  ev : EvR w R
section
variable {w w1 : World} {R : Nat} {T : ByteArray} {j l : Nat}
theorem EvR.below (h : EvR w R) (g : Below R w w1) : EvR w1 R := by
  obtain ⟨h1, ev, h2, h3⟩ := h
  exact ⟨h1, ev, (g.cell (p := ⟨5, 0, none⟩) h1).trans h2, h3⟩
theorem RdAt.lt (h : RdAt w R T j l) : R < w.heap.size := (Array.getElem?_eq_some_iff.1 h.h).1
theorem RdAt.below (h : RdAt w R T j l) (g : Below w.heap.size w w1) : RdAt w1 R T j l := ⟨(g.block _ h.lt).trans h.h, h.le, h.small, h.ev.below (g.mono (Nat.le_of_lt h.lt))⟩
theorem RdAt.drew (h : RdAt w R T j l) : RdAt w.drew R T j l := ⟨h.h, h.le, h.small, h.ev⟩
end
/-- the reading of a text that is no program ends -/
def pncF (at' er : Nat) : Ending := .panicked [{ v := .iface 53 (.agg #[.int .i64 (at' : Int), .int .i64 (er : Int)]), recovered := false }]

set_option maxRecDepth 100000 in
set_option maxHeartbeats 1000000 in
theorem take_no (R : Nat) (T : ByteArray) (j l k : Nat) (w : World) (hR : RdAt w R T j l) (hk : ¬ (tok (by' T) j).kind = k) :
    Calls Tryd.prog 37 #[.pointer (some ⟨R, 0, none⟩), .int .i64 (k : Int)] w fun e w' => e = pncF (tok (by' T) j).at' 5 ∧ Below w.heap.size w w' := by
  have c1 : w.cell? ⟨R, 1, none⟩ = some (.int .i64 ((tok (by' T) j).kind : Int)) := by simp [World.cell?, hR.h]
  have c2 : w.cell? ⟨R, 2, none⟩ = some (.int .i64 ((tok (by' T) j).at' : Int)) := by simp [World.cell?, hR.h]
  have c3 : w.cell? ⟨R, 3, none⟩ = some (.string (bs (tok (by' T) j).text)) := by simp [World.cell?, hR.h]
  have hlt := hR.lt
  generalize (tok (by' T) j).kind = kd at *
  generalize (tok (by' T) j).at' = at' at *
  generalize bs (tok (by' T) j).text = tx at *
  have hkb : ((kd : Int) != (k : Int)) = true := by simp; omega
  clear hR hk
  go_enter Tryd.func37, Tryd.ntmps37
  go_wp2_with fail
  exact ⟨rfl, rfl, ((Below.refl _ _).alloc (Nat.le_refl _) _).alloc (by simp) _⟩

set_option maxRecDepth 100000 in
set_option maxHeartbeats 400000 in
theorem take_yes (R : Nat) (T : ByteArray) (j l k : Nat) (w : World) (hR : RdAt w R T j l) (hk : (tok (by' T) j).kind = k) :
    Calls Tryd.prog 37 #[.pointer (some ⟨R, 0, none⟩), .int .i64 (k : Int)] w fun e w' => e = .returned (tokv (tok (by' T) j)) ∧ Fr R w w' ∧ RdAt w' R T (tok (by' T) j).nx l := by
  have c1 : w.cell? ⟨R, 1, none⟩ = some (.int .i64 ((tok (by' T) j).kind : Int)) := by simp [World.cell?, hR.h]
  have c2 : w.cell? ⟨R, 2, none⟩ = some (.int .i64 ((tok (by' T) j).at' : Int)) := by simp [World.cell?, hR.h]
  have c3 : w.cell? ⟨R, 3, none⟩ = some (.string (bs (tok (by' T) j).text)) := by simp [World.cell?, hR.h]
  have hta := tok_at (by' T) j (by rw [by_len]; exact hR.le)
  rw [by_len] at hta
  have hmx : Tryd.prog.follows .mixedOrders = true := by kernel_rfl
  have HRD := hid hR
  have hlt := hR.lt
  have hsm := hR.small
  have HNX : Hid ((tok (by' T) j).nx ≤ T.size) := hta.2.1
  have hsz : (bs (tok (by' T) j).text).size = (tok (by' T) j).text.length := bs_size _
  have HNE : Hid ((tok (by' T) j).nx = (tok (by' T) j).at' + (tok (by' T) j).text.length) := rfl
  obtain ⟨V, hV⟩ : ∃ V, V = (w.alloc (.cells #[.int .i64 0, .int .i64 0, .string ⟨#[]⟩] 66)).alloc (.cells #[.int .i64 ((tok (by' T) j).kind : Int), .int .i64 ((tok (by' T) j).at' : Int), .string (bs (tok (by' T) j).text)] 66) := ⟨_, rfl⟩
  have hb0 : Below w.heap.size w V := by rw [hV]; exact ((Below.refl _ _).alloc (Nat.le_refl _) _).alloc (by simp) _
  have hvs : V.heap.size = w.heap.size + 2 := by rw [hV]; simp
  have hr1 : V.heap[w.heap.size]? = some (.cells #[.int .i64 0, .int .i64 0, .string ⟨#[]⟩] 66 (0, 0)) := by
    rw [hV, heap_alloc_old _ _ (by simp)]
    exact heap_alloc_new w _
  have hr2 : V.heap[w.heap.size + 1]? = some (.cells #[.int .i64 ((tok (by' T) j).kind : Int), .int .i64 ((tok (by' T) j).at' : Int), .string (bs (tok (by' T) j).text)] 66 (0, 0)) := by
    rw [hV]
    have := heap_alloc_new (w.alloc (.cells #[.int .i64 0, .int .i64 0, .string ⟨#[]⟩] 66)) (.cells #[.int .i64 ((tok (by' T) j).kind : Int), .int .i64 ((tok (by' T) j).at' : Int), .string (bs (tok (by' T) j).text)] 66)
    simpa using this
  have HRV : Hid (V.heap[R]? = some (.cells #[.string T, .int .i64 ((tok (by' T) j).kind : Int), .int .i64 ((tok (by' T) j).at' : Int), .string (bs (tok (by' T) j).text), .int .i64 (l : Int)] 69 (0, 0))) := (hR.below hb0).h
  have HEV := hid (hR.below hb0).ev
  have HTK := hid (fun W (a : Nat) (ha : a ≤ T.size) => tokenAt_any T a W (by omega) ha)
  have HTV : Hid (tokv (tok (by' T) j) = .agg #[.int .i64 ((tok (by' T) j).kind : Int), .int .i64 ((tok (by' T) j).at' : Int), .string (bs (tok (by' T) j).text)]) := rfl
  rw [HTV.out]
  generalize (tok (by' T) j).kind = kd at *
  generalize (tok (by' T) j).at' = at' at *
  generalize (tok (by' T) j).text = tl at *
  generalize (tok (by' T) j).nx = nx at *
  generalize bs tl = tx at *
  have hkb : ((kd : Int) != (k : Int)) = false := by rw [hk]; simp
  have HV := hid (show ∀ W, Below V.heap.size V W → W.heap[w.heap.size]? = some (.cells #[.int .i64 0, .int .i64 0, .string ⟨#[]⟩] 66 (0, 0)) ∧ W.heap[w.heap.size + 1]? = some (.cells #[.int .i64 (kd : Int), .int .i64 (at' : Int), .string tx] 66 (0, 0)) ∧ W.heap[R]? = V.heap[R]? from fun W h => ⟨(h.block _ (by omega)).trans hr1, (h.block _ (by omega)).trans hr2, h.block _ (by omega)⟩)
  have HB0 := hid hb0
  have HVS := hid hvs
  have hnx : (nx : Int) = (at' : Int) + (tx.size : Int) := by have := HNE.out; omega
  have hwr : IntKind.i64.wrap ((at' : Int) + (tx.size : Int)) = (at' : Int) + (tx.size : Int) := by rw [IntKind.wrap_i64]; have := HNX.out; omega
  have hb00 : Below V.heap.size V V.drew := (Below.refl _ _).drew
  have HCA := hid ((HTK.out V.drew nx HNX.out).mono (R' := fun e w' => e = .returned (.agg #[.int .i64 ((tok (by' T) nx).kind : Int), .int .i64 ((tok (by' T) nx).at' : Int), .string (bs (tok (by' T) nx).text)]) ∧ Below V.heap.size V w') (fun e w' h => ⟨h.1, hb00.trans h.2⟩))
  rw [hnx] at HCA
  clear hnx
  have HEN : Hid (∀ W, W.heap[R]? = some (.cells #[.string T, .int .i64 ((tok (by' T) nx).kind : Int), .int .i64 ((tok (by' T) nx).at' : Int), .string (bs (tok (by' T) nx).text), .int .i64 (l : Int)] 69 (0, 0)) → EvR W R → RdAt W R T nx l) := fun W h1 h2 => ⟨h1, HNX.out, hsm, h2⟩
  generalize (tok (by' T) nx).kind = kd2 at *
  generalize (tok (by' T) nx).at' = at2 at *
  generalize bs (tok (by' T) nx).text = tx2 at *
  have r0 : V.cell? ⟨R, 0, none⟩ = some (.string T) := by simp [World.cell?, HRV.out]
  have t1 : V.cell? ⟨w.heap.size + 1, 1, none⟩ = some (.int .i64 (at' : Int)) := by simp [World.cell?, hr2]
  have t2 : V.cell? ⟨w.heap.size + 1, 2, none⟩ = some (.string tx) := by simp [World.cell?, hr2]
  have HKE : Hid (∀ W, Below V.heap.size V W → W.cell? ⟨R, 0, none⟩ = some (.string T) ∧ W.cell? ⟨w.heap.size + 1, 1, none⟩ = some (.int .i64 (at' : Int)) ∧ W.cell? ⟨w.heap.size + 1, 2, none⟩ = some (.string tx)) := fun W h => ⟨(h.cell (p := ⟨R, 0, none⟩) (World.block_lt_of_cell? _ _ r0)).trans r0, (h.cell (p := ⟨w.heap.size + 1, 1, none⟩) (World.block_lt_of_cell? _ _ t1)).trans t1, (h.cell (p := ⟨w.heap.size + 1, 2, none⟩) (World.block_lt_of_cell? _ _ t2)).trans t2⟩
  have HKX : Hid (∀ (W : World) (a b c : Value), (W.cell? ⟨R, 0, none⟩ = some (.string T) ∧ W.cell? ⟨w.heap.size + 1, 1, none⟩ = some (.int .i64 (at' : Int)) ∧ W.cell? ⟨w.heap.size + 1, 2, none⟩ = some (.string tx)) → ((((W.setCell ⟨R, 1, none⟩ a).setCell ⟨R, 2, none⟩ b).setCell ⟨R, 3, none⟩ c).cell? ⟨R, 0, none⟩ = some (.string T) ∧ (((W.setCell ⟨R, 1, none⟩ a).setCell ⟨R, 2, none⟩ b).setCell ⟨R, 3, none⟩ c).cell? ⟨w.heap.size + 1, 1, none⟩ = some (.int .i64 (at' : Int)) ∧ (((W.setCell ⟨R, 1, none⟩ a).setCell ⟨R, 2, none⟩ b).setCell ⟨R, 3, none⟩ c).cell? ⟨w.heap.size + 1, 2, none⟩ = some (.string tx))) := fun W a b c h => by
    have o : ∀ p : Addr, p.block ≠ R ∨ p.off = 0 → (((W.setCell ⟨R, 1, none⟩ a).setCell ⟨R, 2, none⟩ b).setCell ⟨R, 3, none⟩ c).cell? p = W.cell? p := fun p hp => by
      have q : ∀ i, 0 < i → (⟨R, i, none⟩ : Addr) ≠ p := fun i hi e => by
        subst e
        rcases hp with h | h
        · exact h rfl
        · simp at h; omega
      rw [World.cell?_setCell_other _ _ _ _ (q 3 (by decide)), World.cell?_setCell_other _ _ _ _ (q 2 (by decide)), World.cell?_setCell_other _ _ _ _ (q 1 (by decide))]
    exact ⟨(o _ (.inr rfl)).trans h.1, (o _ (.inl (by show w.heap.size + 1 ≠ R; omega))).trans h.2.1, (o _ (.inl (by show w.heap.size + 1 ≠ R; omega))).trans h.2.2⟩
  clear hR hk hta hb0 hvs hr1 hr2 HTK HTV r0 t1 t2 hsz
  go_enter Tryd.func37, Tryd.ntmps37
  go_wp2_with fail
  rw [← hV]
  clear hV
  go_region_held3 (fun W => W.cell? ⟨R, 0, none⟩ = some (.string T) ∧ W.cell? ⟨w.heap.size + 1, 1, none⟩ = some (.int .i64 (at' : Int)) ∧ W.cell? ⟨w.heap.size + 1, 2, none⟩ = some (.string tx)) (first | exact HKE.out _ (by assumption) | exact HKX.out _ _ _ _ (by refine ⟨?_, ?_, ?_⟩ <;> assumption))
    (first
      | (go_at_call 21; refine HCA.out.mono ?_; rintro e w' ⟨rfl, hb1⟩; obtain ⟨v1, v2, v3⟩ := HV.out w' hb1; have hRw : w'.heap[R]? = some (.cells #[.string T, .int .i64 (kd : Int), .int .i64 (at' : Int), .string tx, .int .i64 (l : Int)] 69 (0, 0)) := v3.trans HRV.out; obtain ⟨s0, s1, s2⟩ := HKE.out w' hb1; have x1 : w'.cell? ⟨R, 1, none⟩ = some (.int .i64 (kd : Int)) := (by simp [World.cell?, hRw]); have x2 : w'.cell? ⟨R, 2, none⟩ = some (.int .i64 (at' : Int)) := (by simp [World.cell?, hRw]); have x3 : w'.cell? ⟨R, 3, none⟩ = some (.string tx) := (by simp [World.cell?, hRw]); have xf := fun i => frozen_of_row w' R i _ _ hRw))
  obtain ⟨W2, hW2⟩ : ∃ W2, W2 = ((w'.setCell ⟨R, 1, none⟩ (.int .i64 (kd2 : Int))).setCell ⟨R, 2, none⟩ (.int .i64 (at2 : Int))).setCell ⟨R, 3, none⟩ (.string tx2) := ⟨_, rfl⟩
  have hF0 : Fr R w w' := (Fr.below HB0.out (by omega)).more hb1 hlt
  have hF2 : Fr R w W2 := by rw [hW2]; exact ((hF0.set 1 _).set 2 _).set 3 _
  have hR2 : W2.heap[R]? = some (.cells #[.string T, .int .i64 (kd2 : Int), .int .i64 (at2 : Int), .string tx2, .int .i64 (l : Int)] 69 (0, 0)) := by
    rw [hW2]
    exact heap_setCell_same _ R 3 _ _ _ (heap_setCell_same _ R 2 _ _ _ (heap_setCell_same _ R 1 _ _ _ hRw))
  have ho : ∀ b, b ≠ R → W2.heap[b]? = w'.heap[b]? := fun b hb => by rw [hW2, heap_setCell_other _ _ _ _ hb, heap_setCell_other _ _ _ _ hb, heap_setCell_other _ _ _ _ hb]
  have hE2 : EvR W2 R := HEV.out.below ((hb1.mono (by have := HVS.out; omega)).trans (by rw [hW2]; exact (((Below.refl R w').setCell (p := ⟨R, 1, none⟩) (Nat.le_refl _) _).setCell (p := ⟨R, 2, none⟩) (Nat.le_refl _) _).setCell (p := ⟨R, 3, none⟩) (Nat.le_refl _) _))
  have hq1 := (ho w.heap.size (by omega)).trans v1
  have hq2 := (ho (w.heap.size + 1) (by omega)).trans v2
  have HQ1 := hid hq1
  have HF2 := hid hF2
  have HR2 := hid (HEN.out W2 hR2 hE2)
  have y0 : W2.cell? ⟨w.heap.size + 1, 0, none⟩ = some (.int .i64 (kd : Int)) := by simp [World.cell?, hq2]
  have y1 : W2.cell? ⟨w.heap.size + 1, 1, none⟩ = some (.int .i64 (at' : Int)) := by simp [World.cell?, hq2]
  have y2 : W2.cell? ⟨w.heap.size + 1, 2, none⟩ = some (.string tx) := by simp [World.cell?, hq2]
  have z0 : W2.cell? ⟨w.heap.size, 0, none⟩ = some (.int .i64 0) := by simp [World.cell?, hq1]
  have z1 : W2.cell? ⟨w.heap.size, 1, none⟩ = some (.int .i64 0) := by simp [World.cell?, hq1]
  have z2 : W2.cell? ⟨w.heap.size, 2, none⟩ = some (.string ⟨#[]⟩) := by simp [World.cell?, hq1]
  have zf := fun i => frozen_of_row W2 w.heap.size i _ _ hq1
  have HLT := hid hlt
  rw [← hW2]
  clear hW2 hF0 hF2 hR2 ho hE2 hq1 hq2 hRw x1 x2 x3 xf s0 s1 s2 v1 v2 v3 hb1 HKE HKX HCA HV HEN HRV HEV c1 c2 c3
  go_wp2_with fail
  have hh := heap_setCell_same _ w.heap.size 2 _ _ (.string tx) (heap_setCell_same _ w.heap.size 1 _ _ (.int .i64 (at' : Int)) (heap_setCell_same W2 w.heap.size 0 _ _ (.int .i64 (kd : Int)) HQ1.out))
  refine bodyPost_ret (results_cell_row rfl _ _ w.heap.size 66 #[.int .i64 (kd : Int), .int .i64 (at' : Int), .string tx] (0, 0) _ rfl (by exact hh) Tryd.underlying66 rfl (by kernel_rfl)) rfl ?_
  have hl0 := HLT.out
  refine ⟨rfl, ((HF2.out.setNew (Nat.le_refl _) hl0 0 _).setNew (Nat.le_refl _) hl0 1 _).setNew (Nat.le_refl _) hl0 2 _, ?_⟩
  have hb9 : Below w.heap.size W2 (((W2.setCell ⟨w.heap.size, 0, none⟩ (.int .i64 (kd : Int))).setCell ⟨w.heap.size, 1, none⟩ (.int .i64 (at' : Int))).setCell ⟨w.heap.size, 2, none⟩ (.string tx)) := (((Below.refl _ _).setCell (p := ⟨w.heap.size, 0, none⟩) (Nat.le_refl _) _).setCell (p := ⟨w.heap.size, 1, none⟩) (Nat.le_refl _) _).setCell (p := ⟨w.heap.size, 2, none⟩) (Nat.le_refl _) _
  exact ⟨(hb9.block R hl0).trans HR2.out.h, HR2.out.le, HR2.out.small, HR2.out.ev.below (hb9.mono (Nat.le_of_lt hl0))⟩

end Go.Proofs.YthpkcageimhgaaaDoor
