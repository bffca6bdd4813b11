/- Package source: the reader. Package source: the reader begins and ends levels, reads names. Package source: the reader reads names. Package source: trees in memory; the reader reads numbers. Package source: pairs, brackets. Package source: the reader's functions that begin a level. Package source: a sign ahead of a part. Package source: need. -/
import Derived.Test.YtmmgkdcojkmlcaaGreatDoorLFAB
import Derived.Test.YtmmgkdcojkmlcaaGreatDoorFld
import Derived.Deep.RegionHeld3
import Derived.Defers
namespace Go.Proofs.YtmmgkdcojkmlcaaGreatDoor
open Go.RowKit

/-- one block alone of those that were there may have turned -/
def Fr (R : Nat) (w w' : World) : Prop := Below R w w' ∧ ∀ b, b < w.heap.size → b ≠ R → w'.heap[b]? = w.heap[b]?
section
variable {R : Nat} {w w1 w2 : World}
theorem Fr.size (h : Fr R w w1) : w.heap.size ≤ w1.heap.size := h.1.size
theorem Fr.refl (R : Nat) (w : World) : Fr R w w := ⟨Below.refl _ _, fun _ _ _ => rfl⟩
theorem Fr.trans (h : Fr R w w1) (g : Fr R w1 w2) : Fr R w w2 := ⟨h.1.trans g.1, fun b hb hne => (g.2 b (Nat.lt_of_lt_of_le hb h.size) hne).trans (h.2 b hb hne)⟩
theorem Fr.below (h : Below w.heap.size w w1) (hR : R ≤ w.heap.size) : Fr R w w1 := ⟨h.mono hR, fun b hb _ => h.block b hb⟩
theorem Fr.more (h : Fr R w w1) (g : Below w1.heap.size w1 w2) (hR : R < w.heap.size) : Fr R w w2 := h.trans (Fr.below g (by have := h.size; omega))
theorem Fr.alloc (h : Fr R w w1) (hR : R < w.heap.size) (o : Obj) : Fr R w (w1.alloc o) := h.more ((Below.refl _ _).alloc (Nat.le_refl _) _) hR
theorem Fr.drew (h : Fr R w w1) : Fr R w w1.drew := ⟨h.1.drew, h.2⟩
theorem Fr.set (h : Fr R w w1) (i : Nat) (v : Value) : Fr R w (w1.setCell ⟨R, i, none⟩ v) :=
  ⟨h.1.setCell (p := ⟨R, i, none⟩) (Nat.le_refl _) v, fun b hb hne => (heap_setCell_other w1 ⟨R, i, none⟩ b v hne).trans (h.2 b hb hne)⟩
/-- a block of one's own -/
theorem Fr.setNew (h : Fr R w w1) {g : Nat} (hg : w.heap.size ≤ g) (hR : R < w.heap.size) (i : Nat) (v : Value) : Fr R w (w1.setCell ⟨g, i, none⟩ v) :=
  ⟨h.1.setCell (p := ⟨g, i, none⟩) (by show R ≤ g; omega) v, fun b hb hne => (heap_setCell_other w1 ⟨g, i, none⟩ b v (by show b ≠ g; omega)).trans (h.2 b hb hne)⟩
theorem Fr.keep (h : Fr R w w1) {b : Nat} (h1 : R + 1 ≤ b) (h2 : b < w.heap.size) : w1.heap[b]? = w.heap[b]? := h.2 b h2 (by omega)
theorem Fr.cell (h : Fr R w w1) {b i : Nat} {v : Value} (h1 : b ≠ R) (hc : w.cell? ⟨b, i, none⟩ = some v) : w1.cell? ⟨b, i, none⟩ = some v := by
  have hl := World.block_lt_of_cell? _ _ hc
  unfold World.cell? at hc ⊢
  rw [h.2 b hl h1]
  exact hc
end
/-- the library's own error is there -/
def EvR (w : World) (R : Nat) : Prop := 3 < R ∧ ∃ ev, w.cell? ⟨3, 0, none⟩ = some ev ∧ (ev = .nilIface ∨ ∃ te pe, ev = .iface te pe)
/-- a reader in memory: its text, the next token, how many levels -/
structure RdAt (w : World) (R : Nat) (T : ByteArray) (j l : Nat) : Prop where
  h : w.heap[R]? = some (.cells #[.string T, .int .i64 ((tok (by' T) j).kind : Int), .int .i64 ((tok (by' T) j).at' : Int), .string (bs (tok (by' T) j).text), .int .i64 (l : Int)] 146 (0, 0))
  le : j ≤ T.size
  small : T.size ≤ 4000
  ev : EvR w R
section
variable {w w1 : World} {R : Nat} {T : ByteArray} {j l : Nat}
theorem EvR.below (h : EvR w R) (g : Below R w w1) : EvR w1 R := by
  obtain ⟨h1, ev, h2, h3⟩ := h
  exact ⟨h1, ev, (g.cell (p := ⟨3, 0, none⟩) h1).trans h2, h3⟩
theorem RdAt.lt (h : RdAt w R T j l) : R < w.heap.size := (Array.getElem?_eq_some_iff.1 h.h).1
theorem RdAt.below (h : RdAt w R T j l) (g : Below w.heap.size w w1) : RdAt w1 R T j l := ⟨(g.block _ h.lt).trans h.h, h.le, h.small, h.ev.below (g.mono (Nat.le_of_lt h.lt))⟩
theorem RdAt.drew (h : RdAt w R T j l) : RdAt w.drew R T j l := ⟨h.h, h.le, h.small, h.ev⟩
end
/-- the reading of a text that is no program ends -/
def pncF (at' er : Nat) : Ending := .panicked [{ v := .iface 101 (.agg #[.int .i64 (at' : Int), .int .i64 (er : Int)]), recovered := false }]

set_option maxRecDepth 100000 in
set_option maxHeartbeats 1000000 in
theorem take_no (R : Nat) (T : ByteArray) (j l k : Nat) (w : World) (hR : RdAt w R T j l) (hk : ¬ (tok (by' T) j).kind = k) :
    Calls Tryz.prog 78 #[.pointer (some ⟨R, 0, none⟩), .int .i64 (k : Int)] w fun e w' => e = pncF (tok (by' T) j).at' 5 ∧ Below w.heap.size w w' := by
  have c1 : w.cell? ⟨R, 1, none⟩ = some (.int .i64 ((tok (by' T) j).kind : Int)) := by simp [World.cell?, hR.h]
  have c2 : w.cell? ⟨R, 2, none⟩ = some (.int .i64 ((tok (by' T) j).at' : Int)) := by simp [World.cell?, hR.h]
  have c3 : w.cell? ⟨R, 3, none⟩ = some (.string (bs (tok (by' T) j).text)) := by simp [World.cell?, hR.h]
  have hlt := hR.lt
  generalize (tok (by' T) j).kind = kd at *
  generalize (tok (by' T) j).at' = at' at *
  generalize bs (tok (by' T) j).text = tx at *
  have hkb : ((kd : Int) != (k : Int)) = true := by simp; omega
  clear hR hk
  go_enter Tryz.func78, Tryz.ntmps78
  go_wp2_with fail
  exact ⟨rfl, rfl, ((Below.refl _ _).alloc (Nat.le_refl _) _).alloc (by simp) _⟩

set_option maxRecDepth 100000 in
set_option maxHeartbeats 400000 in
theorem take_yes (R : Nat) (T : ByteArray) (j l k : Nat) (w : World) (hR : RdAt w R T j l) (hk : (tok (by' T) j).kind = k) :
    Calls Tryz.prog 78 #[.pointer (some ⟨R, 0, none⟩), .int .i64 (k : Int)] w fun e w' => e = .returned (tokv (tok (by' T) j)) ∧ Fr R w w' ∧ RdAt w' R T (tok (by' T) j).nx l := by
  have c1 : w.cell? ⟨R, 1, none⟩ = some (.int .i64 ((tok (by' T) j).kind : Int)) := by simp [World.cell?, hR.h]
  have c2 : w.cell? ⟨R, 2, none⟩ = some (.int .i64 ((tok (by' T) j).at' : Int)) := by simp [World.cell?, hR.h]
  have c3 : w.cell? ⟨R, 3, none⟩ = some (.string (bs (tok (by' T) j).text)) := by simp [World.cell?, hR.h]
  have hta := tok_at (by' T) j (by rw [by_len]; exact hR.le)
  rw [by_len] at hta
  have hmx : Tryz.prog.follows .mixedOrders = true := by kernel_rfl
  have HRD := hid hR
  have hlt := hR.lt
  have hsm := hR.small
  have HNX : Hid ((tok (by' T) j).nx ≤ T.size) := hta.2.1
  have hsz : (bs (tok (by' T) j).text).size = (tok (by' T) j).text.length := bs_size _
  have HNE : Hid ((tok (by' T) j).nx = (tok (by' T) j).at' + (tok (by' T) j).text.length) := rfl
  obtain ⟨V, hV⟩ : ∃ V, V = (w.alloc (.cells #[.int .i64 0, .int .i64 0, .string ⟨#[]⟩] 143)).alloc (.cells #[.int .i64 ((tok (by' T) j).kind : Int), .int .i64 ((tok (by' T) j).at' : Int), .string (bs (tok (by' T) j).text)] 143) := ⟨_, rfl⟩
  have hb0 : Below w.heap.size w V := by rw [hV]; exact ((Below.refl _ _).alloc (Nat.le_refl _) _).alloc (by simp) _
  have hvs : V.heap.size = w.heap.size + 2 := by rw [hV]; simp
  have hr1 : V.heap[w.heap.size]? = some (.cells #[.int .i64 0, .int .i64 0, .string ⟨#[]⟩] 143 (0, 0)) := by
    rw [hV, heap_alloc_old _ _ (by simp)]
    exact heap_alloc_new w _
  have hr2 : V.heap[w.heap.size + 1]? = some (.cells #[.int .i64 ((tok (by' T) j).kind : Int), .int .i64 ((tok (by' T) j).at' : Int), .string (bs (tok (by' T) j).text)] 143 (0, 0)) := by
    rw [hV]
    have := heap_alloc_new (w.alloc (.cells #[.int .i64 0, .int .i64 0, .string ⟨#[]⟩] 143)) (.cells #[.int .i64 ((tok (by' T) j).kind : Int), .int .i64 ((tok (by' T) j).at' : Int), .string (bs (tok (by' T) j).text)] 143)
    simpa using this
  have HRV : Hid (V.heap[R]? = some (.cells #[.string T, .int .i64 ((tok (by' T) j).kind : Int), .int .i64 ((tok (by' T) j).at' : Int), .string (bs (tok (by' T) j).text), .int .i64 (l : Int)] 146 (0, 0))) := (hR.below hb0).h
  have HEV := hid (hR.below hb0).ev
  have HTK := hid (fun W (a : Nat) (ha : a ≤ T.size) => tokenAt_any T a W (by omega) ha)
  have HTV : Hid (tokv (tok (by' T) j) = .agg #[.int .i64 ((tok (by' T) j).kind : Int), .int .i64 ((tok (by' T) j).at' : Int), .string (bs (tok (by' T) j).text)]) := rfl
  rw [HTV.out]
  generalize (tok (by' T) j).kind = kd at *
  generalize (tok (by' T) j).at' = at' at *
  generalize (tok (by' T) j).text = tl at *
  generalize (tok (by' T) j).nx = nx at *
  generalize bs tl = tx at *
  have hkb : ((kd : Int) != (k : Int)) = false := by rw [hk]; simp
  have HV := hid (show ∀ W, Below V.heap.size V W → W.heap[w.heap.size]? = some (.cells #[.int .i64 0, .int .i64 0, .string ⟨#[]⟩] 143 (0, 0)) ∧ W.heap[w.heap.size + 1]? = some (.cells #[.int .i64 (kd : Int), .int .i64 (at' : Int), .string tx] 143 (0, 0)) ∧ W.heap[R]? = V.heap[R]? from fun W h => ⟨(h.block _ (by omega)).trans hr1, (h.block _ (by omega)).trans hr2, h.block _ (by omega)⟩)
  have HB0 := hid hb0
  have HVS := hid hvs
  have hnx : (nx : Int) = (at' : Int) + (tx.size : Int) := by have := HNE.out; omega
  have hwr : IntKind.i64.wrap ((at' : Int) + (tx.size : Int)) = (at' : Int) + (tx.size : Int) := by rw [IntKind.wrap_i64]; have := HNX.out; omega
  have hb00 : Below V.heap.size V V.drew := (Below.refl _ _).drew
  have HCA := hid ((HTK.out V.drew nx HNX.out).mono (R' := fun e w' => e = .returned (.agg #[.int .i64 ((tok (by' T) nx).kind : Int), .int .i64 ((tok (by' T) nx).at' : Int), .string (bs (tok (by' T) nx).text)]) ∧ Below V.heap.size V w') (fun e w' h => ⟨h.1, hb00.trans h.2⟩))
  rw [hnx] at HCA
  clear hnx
  have HEN : Hid (∀ W, W.heap[R]? = some (.cells #[.string T, .int .i64 ((tok (by' T) nx).kind : Int), .int .i64 ((tok (by' T) nx).at' : Int), .string (bs (tok (by' T) nx).text), .int .i64 (l : Int)] 146 (0, 0)) → EvR W R → RdAt W R T nx l) := fun W h1 h2 => ⟨h1, HNX.out, hsm, h2⟩
  generalize (tok (by' T) nx).kind = kd2 at *
  generalize (tok (by' T) nx).at' = at2 at *
  generalize bs (tok (by' T) nx).text = tx2 at *
  have r0 : V.cell? ⟨R, 0, none⟩ = some (.string T) := by simp [World.cell?, HRV.out]
  have t1 : V.cell? ⟨w.heap.size + 1, 1, none⟩ = some (.int .i64 (at' : Int)) := by simp [World.cell?, hr2]
  have t2 : V.cell? ⟨w.heap.size + 1, 2, none⟩ = some (.string tx) := by simp [World.cell?, hr2]
  have HKE : Hid (∀ W, Below V.heap.size V W → W.cell? ⟨R, 0, none⟩ = some (.string T) ∧ W.cell? ⟨w.heap.size + 1, 1, none⟩ = some (.int .i64 (at' : Int)) ∧ W.cell? ⟨w.heap.size + 1, 2, none⟩ = some (.string tx)) := fun W h => ⟨(h.cell (p := ⟨R, 0, none⟩) (World.block_lt_of_cell? _ _ r0)).trans r0, (h.cell (p := ⟨w.heap.size + 1, 1, none⟩) (World.block_lt_of_cell? _ _ t1)).trans t1, (h.cell (p := ⟨w.heap.size + 1, 2, none⟩) (World.block_lt_of_cell? _ _ t2)).trans t2⟩
  have HKX : Hid (∀ (W : World) (a b c : Value), (W.cell? ⟨R, 0, none⟩ = some (.string T) ∧ W.cell? ⟨w.heap.size + 1, 1, none⟩ = some (.int .i64 (at' : Int)) ∧ W.cell? ⟨w.heap.size + 1, 2, none⟩ = some (.string tx)) → ((((W.setCell ⟨R, 1, none⟩ a).setCell ⟨R, 2, none⟩ b).setCell ⟨R, 3, none⟩ c).cell? ⟨R, 0, none⟩ = some (.string T) ∧ (((W.setCell ⟨R, 1, none⟩ a).setCell ⟨R, 2, none⟩ b).setCell ⟨R, 3, none⟩ c).cell? ⟨w.heap.size + 1, 1, none⟩ = some (.int .i64 (at' : Int)) ∧ (((W.setCell ⟨R, 1, none⟩ a).setCell ⟨R, 2, none⟩ b).setCell ⟨R, 3, none⟩ c).cell? ⟨w.heap.size + 1, 2, none⟩ = some (.string tx))) := fun W a b c h => by
    have o : ∀ p : Addr, p.block ≠ R ∨ p.off = 0 → (((W.setCell ⟨R, 1, none⟩ a).setCell ⟨R, 2, none⟩ b).setCell ⟨R, 3, none⟩ c).cell? p = W.cell? p := fun p hp => by
      have q : ∀ i, 0 < i → (⟨R, i, none⟩ : Addr) ≠ p := fun i hi e => by
        subst e
        rcases hp with h | h
        · exact h rfl
        · simp at h; omega
      rw [World.cell?_setCell_other _ _ _ _ (q 3 (by decide)), World.cell?_setCell_other _ _ _ _ (q 2 (by decide)), World.cell?_setCell_other _ _ _ _ (q 1 (by decide))]
    exact ⟨(o _ (.inr rfl)).trans h.1, (o _ (.inl (by show w.heap.size + 1 ≠ R; omega))).trans h.2.1, (o _ (.inl (by show w.heap.size + 1 ≠ R; omega))).trans h.2.2⟩
  clear hR hk hta hb0 hvs hr1 hr2 HTK HTV r0 t1 t2 hsz
  go_enter Tryz.func78, Tryz.ntmps78
  go_wp2_with fail
  rw [← hV]
  clear hV
  go_region_held3 (fun W => W.cell? ⟨R, 0, none⟩ = some (.string T) ∧ W.cell? ⟨w.heap.size + 1, 1, none⟩ = some (.int .i64 (at' : Int)) ∧ W.cell? ⟨w.heap.size + 1, 2, none⟩ = some (.string tx)) (first | exact HKE.out _ (by assumption) | exact HKX.out _ _ _ _ (by refine ⟨?_, ?_, ?_⟩ <;> assumption))
    (first
      | (go_at_call 55; refine HCA.out.mono ?_; rintro e w' ⟨rfl, hb1⟩; obtain ⟨v1, v2, v3⟩ := HV.out w' hb1; have hRw : w'.heap[R]? = some (.cells #[.string T, .int .i64 (kd : Int), .int .i64 (at' : Int), .string tx, .int .i64 (l : Int)] 146 (0, 0)) := v3.trans HRV.out; obtain ⟨s0, s1, s2⟩ := HKE.out w' hb1; have x1 : w'.cell? ⟨R, 1, none⟩ = some (.int .i64 (kd : Int)) := (by simp [World.cell?, hRw]); have x2 : w'.cell? ⟨R, 2, none⟩ = some (.int .i64 (at' : Int)) := (by simp [World.cell?, hRw]); have x3 : w'.cell? ⟨R, 3, none⟩ = some (.string tx) := (by simp [World.cell?, hRw]); have xf := fun i => frozen_of_row w' R i _ _ hRw))
  obtain ⟨W2, hW2⟩ : ∃ W2, W2 = ((w'.setCell ⟨R, 1, none⟩ (.int .i64 (kd2 : Int))).setCell ⟨R, 2, none⟩ (.int .i64 (at2 : Int))).setCell ⟨R, 3, none⟩ (.string tx2) := ⟨_, rfl⟩
  have hF0 : Fr R w w' := (Fr.below HB0.out (by omega)).more hb1 hlt
  have hF2 : Fr R w W2 := by rw [hW2]; exact ((hF0.set 1 _).set 2 _).set 3 _
  have hR2 : W2.heap[R]? = some (.cells #[.string T, .int .i64 (kd2 : Int), .int .i64 (at2 : Int), .string tx2, .int .i64 (l : Int)] 146 (0, 0)) := by
    rw [hW2]
    exact heap_setCell_same _ R 3 _ _ _ (heap_setCell_same _ R 2 _ _ _ (heap_setCell_same _ R 1 _ _ _ hRw))
  have ho : ∀ b, b ≠ R → W2.heap[b]? = w'.heap[b]? := fun b hb => by rw [hW2, heap_setCell_other _ _ _ _ hb, heap_setCell_other _ _ _ _ hb, heap_setCell_other _ _ _ _ hb]
  have hE2 : EvR W2 R := HEV.out.below ((hb1.mono (by have := HVS.out; omega)).trans (by rw [hW2]; exact (((Below.refl R w').setCell (p := ⟨R, 1, none⟩) (Nat.le_refl _) _).setCell (p := ⟨R, 2, none⟩) (Nat.le_refl _) _).setCell (p := ⟨R, 3, none⟩) (Nat.le_refl _) _))
  have hq1 := (ho w.heap.size (by omega)).trans v1
  have hq2 := (ho (w.heap.size + 1) (by omega)).trans v2
  have HQ1 := hid hq1
  have HF2 := hid hF2
  have HR2 := hid (HEN.out W2 hR2 hE2)
  have y0 : W2.cell? ⟨w.heap.size + 1, 0, none⟩ = some (.int .i64 (kd : Int)) := by simp [World.cell?, hq2]
  have y1 : W2.cell? ⟨w.heap.size + 1, 1, none⟩ = some (.int .i64 (at' : Int)) := by simp [World.cell?, hq2]
  have y2 : W2.cell? ⟨w.heap.size + 1, 2, none⟩ = some (.string tx) := by simp [World.cell?, hq2]
  have z0 : W2.cell? ⟨w.heap.size, 0, none⟩ = some (.int .i64 0) := by simp [World.cell?, hq1]
  have z1 : W2.cell? ⟨w.heap.size, 1, none⟩ = some (.int .i64 0) := by simp [World.cell?, hq1]
  have z2 : W2.cell? ⟨w.heap.size, 2, none⟩ = some (.string ⟨#[]⟩) := by simp [World.cell?, hq1]
  have zf := fun i => frozen_of_row W2 w.heap.size i _ _ hq1
  have HLT := hid hlt
  rw [← hW2]
  clear hW2 hF0 hF2 hR2 ho hE2 hq1 hq2 hRw x1 x2 x3 xf s0 s1 s2 v1 v2 v3 hb1 HKE HKX HCA HV HEN HRV HEV c1 c2 c3
  go_wp2_with fail
  have hh := heap_setCell_same _ w.heap.size 2 _ _ (.string tx) (heap_setCell_same _ w.heap.size 1 _ _ (.int .i64 (at' : Int)) (heap_setCell_same W2 w.heap.size 0 _ _ (.int .i64 (kd : Int)) HQ1.out))
  refine bodyPost_ret (results_cell_row rfl _ _ w.heap.size 143 #[.int .i64 (kd : Int), .int .i64 (at' : Int), .string tx] (0, 0) _ rfl (by exact hh) Tryz.underlying143 rfl (by kernel_rfl)) rfl ?_
  have hl0 := HLT.out
  refine ⟨rfl, ((HF2.out.setNew (Nat.le_refl _) hl0 0 _).setNew (Nat.le_refl _) hl0 1 _).setNew (Nat.le_refl _) hl0 2 _, ?_⟩
  have hb9 : Below w.heap.size W2 (((W2.setCell ⟨w.heap.size, 0, none⟩ (.int .i64 (kd : Int))).setCell ⟨w.heap.size, 1, none⟩ (.int .i64 (at' : Int))).setCell ⟨w.heap.size, 2, none⟩ (.string tx)) := (((Below.refl _ _).setCell (p := ⟨w.heap.size, 0, none⟩) (Nat.le_refl _) _).setCell (p := ⟨w.heap.size, 1, none⟩) (Nat.le_refl _) _).setCell (p := ⟨w.heap.size, 2, none⟩) (Nat.le_refl _) _
  exact ⟨(hb9.block R hl0).trans HR2.out.h, HR2.out.le, HR2.out.small, HR2.out.ev.below (hb9.mono (Nat.le_of_lt hl0))⟩

end Go.Proofs.YtmmgkdcojkmlcaaGreatDoor

namespace Go.Proofs.YtmmgkdcojkmlcaaGreatDoor
open Go.RowKit

/-- how a reading ends: V says what a value stands for -/
def Rx {α : Type} (w : World) (R : Nat) (T : ByteArray) (l l' : Nat) (V : World → Value → α → Prop) (r : Res α) (e : Ending) (w' : World) : Prop := Fr R w w' ∧ match r with
  | .ok x j => ∃ v, e = .returned v ∧ V w' v x ∧ RdAt w' R T j l'
  | .bad er at' => e = pncF at' er ∧ ∃ j, RdAt w' R T j l
  | .out => False
def VTok : World → Value → Tok → Prop := fun _ v t => v = tokv t
def VNone : World → Value → Unit → Prop := fun _ v _ => v = .tuple #[]
/-- a name in memory -/
def namv (nm : List UInt8 × Nat) : Value := .agg #[.string (bs nm.1), .int .i64 (nm.2 : Int)]
def VNam : World → Value → List UInt8 × Nat → Prop := fun _ v nm => v = namv nm

theorem takeX (R : Nat) (T : ByteArray) (j l k : Nat) (w : World) (hR : RdAt w R T j l) :
    Calls Tryz.prog 78 #[.pointer (some ⟨R, 0, none⟩), .int .i64 (k : Int)] w (Rx w R T l l VTok (pTake (by' T) k j)) := by
  unfold pTake
  by_cases hk : (tok (by' T) j).kind = k
  · rw [if_pos hk]
    refine (take_yes R T j l k w hR hk).mono ?_
    rintro e w' ⟨rfl, h1, h2⟩
    exact ⟨h1, _, rfl, rfl, h2⟩
  · rw [if_neg hk]
    refine (take_no R T j l k w hR hk).mono ?_
    rintro e w' ⟨rfl, h1⟩
    exact ⟨Fr.below h1 (Nat.le_of_lt hR.lt), rfl, j, hR.below h1⟩

/-- the level alone has turned -/
theorem RdAt.level {w : World} {R : Nat} {T : ByteArray} {j l : Nat} (h : RdAt w R T j l) (m : Nat) : RdAt (w.setCell ⟨R, 4, none⟩ (.int .i64 (m : Int))) R T j m :=
  ⟨heap_setCell_same _ R 4 _ _ _ h.h, h.le, h.small, h.ev.below ((Below.refl R w).setCell (p := ⟨R, 4, none⟩) (Nat.le_refl _) _)⟩

theorem fld_tok (a b c : Value) (w : World) : (Instr.field 143 (.agg #[a, b, c]) 1).run Tryz.prog w = .ok b w := by
  simp [Instr.field, run_underlying Tryz.underlying143, part, Tryz.isAgg3, Result.andThen]
  rfl

set_option maxRecDepth 100000 in
set_option maxHeartbeats 400000 in
theorem enterX (R : Nat) (T : ByteArray) (j l k : Nat) (w : World) (hR : RdAt w R T j l) (hl : l ≤ 64) :
    Calls Tryz.prog 98 #[.pointer (some ⟨R, 0, none⟩), .int .i64 (k : Int)] w (Rx w R T l (l + 1) VNone (pEnter (by' T) k j l)) := by
  have HT := hid (takeX R T j l k w hR)
  have hlt := hR.lt
  unfold pEnter
  clear hR
  cases hp : pTake (by' T) k j with
  | out => unfold pTake at hp; split at hp <;> cases hp
  | bad er at' =>
    rw [hp] at HT
    show Calls _ _ _ _ (Rx w R T l (l + 1) VNone (.bad er at'))
    clear hp
    go_enter Tryz.func98, Tryz.ntmps98
    go_wp2_with fail
    refine HT.out.mono ?_
    rintro e w1 ⟨h1, rfl, h2⟩
    exact ⟨rfl, h1, rfl, h2⟩
  | ok t a =>
    rw [hp] at HT
    show Calls _ _ _ _ (Rx w R T l (l + 1) VNone (if l = 64 then .bad 9 t.at' else .ok () a))
    clear hp
    by_cases h64 : l = 64
    · rw [if_pos h64]
      have q : ((l : Int) == 64) = true := by rw [h64]; rfl
      go_enter Tryz.func98, Tryz.ntmps98
      go_wp2_with fail
      refine HT.out.mono ?_
      rintro e w1 ⟨h1, v, rfl, rfl, h2⟩
      have H1 := hid h1
      have H2 := hid h2
      have c4 : w1.cell? ⟨R, 4, none⟩ = some (.int .i64 (l : Int)) := by simp [World.cell?, h2.h]
      clear h1 h2 h64
      unfold tokv
      have hfd := fun W => fld_tok (.int .i64 (t.kind : Int)) (.int .i64 (t.at' : Int)) (.string (bs t.text)) W
      go_wp2_with fail
      exact ⟨rfl, H1.out, rfl, a, H2.out⟩
    · rw [if_neg h64]
      have q : ((l : Int) == 64) = false := by simp; omega
      have hwr : IntKind.i64.wrap ((l : Int) + 1) = (l : Int) + 1 := by rw [IntKind.wrap_i64]; omega
      go_enter Tryz.func98, Tryz.ntmps98
      go_wp2_with fail
      refine HT.out.mono ?_
      rintro e w1 ⟨h1, v, rfl, rfl, h2⟩
      have H1 := hid h1
      have H2 := hid h2
      have c4 : w1.cell? ⟨R, 4, none⟩ = some (.int .i64 (l : Int)) := by simp [World.cell?, h2.h]
      have cf := frozen_of_row w1 R 4 _ _ h2.h
      clear h1 h2 h64
      unfold tokv
      have hfd := fun W => fld_tok (.int .i64 (t.kind : Int)) (.int .i64 (t.at' : Int)) (.string (bs t.text)) W
      go_wp2_with fail
      go_end0
      exact ⟨H1.out.set 4 _, _, rfl, rfl, H2.out.level (l + 1)⟩

theorem leave_wp (R : Nat) (T : ByteArray) (j l : Nat) (w : World) (hR : RdAt w R T j (l + 1)) (hl : l ≤ 64) (u : FrameMode) :
    CallsD Tryz.prog 99 #[.pointer (some ⟨R, 0, none⟩)] u w fun e u' w' => u' = u ∧ e = .returned (.tuple #[]) ∧ w' = w.setCell ⟨R, 4, none⟩ (.int .i64 (l : Int)) := by
  have c4 : w.cell? ⟨R, 4, none⟩ = some (.int .i64 (((l + 1 : Nat)) : Int)) := by simp [World.cell?, hR.h]
  have cf := frozen_of_row w R 4 _ _ hR.h
  have hwr : IntKind.i64.wrap (((l + 1 : Nat) : Int) - 1) = (l : Int) := by rw [IntKind.wrap_i64]; omega
  generalize ((l + 1 : Nat) : Int) = m at c4 hwr
  clear hR
  refine callsD_of_wp (R := fun e w' => e = .returned (.tuple #[]) ∧ w' = w.setCell ⟨R, 4, none⟩ (.int .i64 (l : Int))) Tryz.func99 rfl ?_
  rw [Tryz.ntmps99]
  simp only [List.size_toArray, List.length_cons, List.length_nil]
  go_wp2_with fail
  go_end0
  exact ⟨rfl, rfl⟩

/-- at the door of a function that has begun a level: it is ended, whatever comes -/
theorem leave_door {fn : Func} {tmps : Array Value} {Q : Ending → World → Prop} {R : Nat} {T : ByteArray} {j l : Nat} {w : World} (hR : RdAt w R T j (l + 1)) (hl : l ≤ 64) (u : FrameMode) (hu : u ≠ .run) (hs : settle u = u)
    (h : Leaves Tryz.prog fn tmps Q [] u (w.setCell ⟨R, 4, none⟩ (.int .i64 (l : Int)))) :
    Leaves Tryz.prog fn tmps Q [{ target := .fn (.func 99) #[], args := #[.pointer (some ⟨R, 0, none⟩)] }] u w := by
  refine leaves_cons (f := 99) (args := #[.pointer (some ⟨R, 0, none⟩)]) hu (by simp [go_sem]) ?_
  refine (leave_wp R T j l w hR hl u).mono ?_
  rintro e u' w' ⟨rfl, rfl, rfl⟩
  show Leaves _ _ _ _ _ (settle u') _
  rw [hs]
  exact h
/-- what a level was begun for comes to its end -/
theorem leave_ret {fn : Func} {tmps : Array Value} {Q : Ending → World → Prop} {R : Nat} {T : ByteArray} {j l : Nat} {w : World} {v : Value} (hR : RdAt w R T j (l + 1)) (hl : l ≤ 64)
    (hv : (results fn tmps).run Tryz.prog (w.setCell ⟨R, 4, none⟩ (.int .i64 (l : Int))) = .ok v (w.setCell ⟨R, 4, none⟩ (.int .i64 (l : Int)))) (h : Q (.returned v) (w.setCell ⟨R, 4, none⟩ (.int .i64 (l : Int)))) :
    Leaves Tryz.prog fn tmps Q [{ target := .fn (.func 99) #[], args := #[.pointer (some ⟨R, 0, none⟩)] }] .returning w :=
  leave_door hR hl .returning (by simp) rfl ⟨v, hv, h⟩
/-- .. or to a fault -/
theorem leave_pnc {fn : Func} {tmps : Array Value} {Q : Ending → World → Prop} {R : Nat} {T : ByteArray} {j l : Nat} {w : World} {v : Value} (hR : RdAt w R T j (l + 1)) (hl : l ≤ 64)
    (h : Q (.panicked [{ v := v, recovered := false }]) (w.setCell ⟨R, 4, none⟩ (.int .i64 (l : Int)))) :
    Leaves Tryz.prog fn tmps Q [{ target := .fn (.func 99) #[], args := #[.pointer (some ⟨R, 0, none⟩)] }] (.panicking [{ v := v, recovered := false }]) w :=
  leave_door hR hl (.panicking [{ v := v, recovered := false }]) (by simp) rfl h

set_option maxRecDepth 100000 in
theorem cloneS_any (s : ByteArray) (w : World) (hs : s.size ≤ 4000) : Calls Tryz.prog 97 #[.string s] w fun e w' => e = .returned (.string s) ∧ Below w.heap.size w w' := by
  have HC := hid (Tryz.stringslite_Clone s w (by omega))
  go_enter Tryz.func97, Tryz.ntmps97
  go_wp2_with fail
  refine HC.out.mono ?_
  rintro e w1 ⟨rfl, hb⟩
  have HB := hid hb
  clear hb
  go_wp2_with fail
  go_ret
  exact ⟨rfl, HB.out⟩

end Go.Proofs.YtmmgkdcojkmlcaaGreatDoor

namespace Go.Proofs.YtmmgkdcojkmlcaaGreatDoor
open Go.RowKit

theorem pTake_out {L : List UInt8} {k a : Nat} : pTake L k a ≠ .out := by
  unfold pTake
  split <;> (intro h; cases h)
theorem pTake_ok {L : List UInt8} {k a j : Nat} {t : Tok} (h : pTake L k a = .ok t j) : t = tok L a ∧ j = (tok L a).nx ∧ (tok L a).kind = k := by
  unfold pTake at h
  split at h
  · rename_i hk
    injection h with h1 h2
    exact ⟨h1.symm, h2.symm, hk⟩
  · cases h
set_option maxRecDepth 100000 in
set_option maxHeartbeats 1000000 in
theorem nameX (R : Nat) (T : ByteArray) (j l : Nat) (w : World) (hR : RdAt w R T j l) :
    Calls Tryz.prog 79 #[.pointer (some ⟨R, 0, none⟩)] w (Rx w R T l l VNam (pName (by' T) j)) := by
  obtain ⟨V, hV⟩ : ∃ V, V = w.alloc (.cells #[.string ⟨#[]⟩, .int .i64 0] 68) := ⟨_, rfl⟩
  have hb0 : Below w.heap.size w V := by rw [hV]; exact (Below.refl _ _).alloc (Nat.le_refl _) _
  have hv0 : V.heap[w.heap.size]? = some (.cells #[.string ⟨#[]⟩, .int .i64 0] 68 (0, 0)) := by rw [hV]; exact heap_alloc_new w _
  have HT := hid (takeX R T j l 2 V (hR.below hb0))
  have hlt := hR.lt
  have HSM := hid hR.small
  have HJ := hid hR.le
  have HB0 := hid hb0
  have HV0 := hid hv0
  have HFV : Hid (∀ W, Fr R V W → Fr R w W) := fun W h => (Fr.below HB0.out (Nat.le_of_lt hlt)).trans h
  unfold pName
  clear hR hb0 hv0
  cases hp : pTake (by' T) 2 j with
  | out => exact absurd hp pTake_out
  | bad er at' =>
    rw [hp] at HT
    show Calls _ _ _ _ (Rx w R T l l VNam (.bad er at'))
    clear hp
    go_enter Tryz.func79, Tryz.ntmps79
    go_wp2_with fail
    rw [← hV]
    refine HT.out.mono ?_
    rintro e w1 ⟨h1, rfl, h2⟩
    exact ⟨rfl, HFV.out _ h1, rfl, h2⟩
  | ok t a =>
    rw [hp] at HT
    show Calls _ _ _ _ (Rx w R T l l VNam (if 16 < t.text.length then .bad 3 t.at' else .ok (t.text, t.at') a))
    obtain ⟨e1, _, _⟩ := pTake_ok hp
    have htl : t.text.length ≤ 4000 := by
      have h1 := tok_at (by' T) j (by rw [by_len]; exact HJ.out)
      rw [by_len] at h1
      have h2 : (tok (by' T) j).nx = (tok (by' T) j).at' + (tok (by' T) j).text.length := rfl
      have := HSM.out
      rw [e1]
      omega
    have hsz := bs_size t.text
    clear hp e1
    by_cases hg : 16 < t.text.length
    · rw [if_pos hg]
      have hgi : (16 : Int) < ((bs t.text).size : Int) := by omega
      clear hsz
      go_enter Tryz.func79, Tryz.ntmps79
      go_wp2_with fail
      rw [← hV]
      refine HT.out.mono ?_
      rintro e w1 ⟨h1, v, rfl, rfl, h2⟩
      have H1 := hid (HFV.out _ h1)
      have H2 := hid h2
      clear h1 h2 hV
      unfold tokv
      go_wp2_with fail
      exact ⟨rfl, H1.out.alloc hlt _, rfl, a, H2.out.below ((Below.refl _ _).alloc (Nat.le_refl _) _)⟩
    · rw [if_neg hg]
      have hgi : ¬ (16 : Int) < ((bs t.text).size : Int) := by omega
      have HCL := hid (fun W => cloneS_any (bs t.text) W (by omega))
      have hmx : Tryz.prog.follows .mixedOrders = true := by kernel_rfl
      clear hsz
      go_enter Tryz.func79, Tryz.ntmps79
      go_wp2_with fail
      rw [← hV]
      refine HT.out.mono ?_
      rintro e w1 ⟨h1, v, rfl, rfl, h2⟩
      obtain ⟨W1, hW1⟩ : ∃ W1, W1 = w1.alloc (.cells #[.int .i64 (t.kind : Int), .int .i64 (t.at' : Int), .string (bs t.text)] 143) := ⟨_, rfl⟩
      have hbw : Below w1.heap.size w1 W1 := by rw [hW1]; exact (Below.refl _ _).alloc (Nat.le_refl _) _
      have hw1 : W1.heap[w1.heap.size]? = some (.cells #[.int .i64 (t.kind : Int), .int .i64 (t.at' : Int), .string (bs t.text)] 143 (0, 0)) := by rw [hW1]; exact heap_alloc_new w1 _
      have hvw : w1.heap[w.heap.size]? = some (.cells #[.string ⟨#[]⟩, .int .i64 0] 68 (0, 0)) := (h1.2 _ (Array.getElem?_eq_some_iff.1 HV0.out).1 (by omega)).trans HV0.out
      have hv1 : W1.heap[w.heap.size]? = some (.cells #[.string ⟨#[]⟩, .int .i64 0] 68 (0, 0)) := (hbw.block _ (Array.getElem?_eq_some_iff.1 hvw).1).trans hvw
      have hcc : w1.heap.size ≠ w.heap.size := by have := (Array.getElem?_eq_some_iff.1 hvw).1; omega
      have H1 := hid ((HFV.out _ h1).more hbw hlt)
      have H2 := hid (h2.below hbw)
      have hz1 : W1.heap.size = w1.heap.size + 1 := by rw [hW1]; simp
      have hlw : w.heap.size < W1.heap.size := (Array.getElem?_eq_some_iff.1 hv1).1
      have HKE : Hid (∀ W, Below W1.heap.size W1 W → W.cell? ⟨w1.heap.size, 1, none⟩ = some (.int .i64 (t.at' : Int)) ∧ W.cell? ⟨w1.heap.size, 2, none⟩ = some (.string (bs t.text))) := fun W h => by
        have h5 := (h.block _ (by omega)).trans hw1
        exact ⟨by simp [World.cell?, h5], by simp [World.cell?, h5]⟩
      have HKX : Hid (∀ (W : World) (x y : Value), (W.cell? ⟨w1.heap.size, 1, none⟩ = some (.int .i64 (t.at' : Int)) ∧ W.cell? ⟨w1.heap.size, 2, none⟩ = some (.string (bs t.text))) → (((W.setCell ⟨w.heap.size, 0, none⟩ x).setCell ⟨w.heap.size, 1, none⟩ y).cell? ⟨w1.heap.size, 1, none⟩ = some (.int .i64 (t.at' : Int)) ∧ ((W.setCell ⟨w.heap.size, 0, none⟩ x).setCell ⟨w.heap.size, 1, none⟩ y).cell? ⟨w1.heap.size, 2, none⟩ = some (.string (bs t.text)))) := fun W x y h => by
        have o : ∀ i, ((W.setCell ⟨w.heap.size, 0, none⟩ x).setCell ⟨w.heap.size, 1, none⟩ y).cell? ⟨w1.heap.size, i, none⟩ = W.cell? ⟨w1.heap.size, i, none⟩ := fun i => by
          rw [World.cell?_setCell_other _ _ _ _ (fun e => by injection e with e; omega), World.cell?_setCell_other _ _ _ _ (fun e => by injection e with e; omega)]
        exact ⟨(o _).trans h.1, (o _).trans h.2⟩
      have HVV : Hid (∀ W, Below W1.heap.size W1 W → W.heap[w.heap.size]? = some (.cells #[.string ⟨#[]⟩, .int .i64 0] 68 (0, 0))) := fun W h => (h.block _ hlw).trans hv1
      have hb00 : Below W1.heap.size W1 W1.drew := (Below.refl _ _).drew
      have HCA := hid ((HCL.out W1.drew).mono (R' := fun e w' => e = .returned (.string (bs t.text)) ∧ Below W1.heap.size W1 w') (fun e w' h => ⟨h.1, hb00.trans h.2⟩))
      have k1 : W1.cell? ⟨w1.heap.size, 1, none⟩ = some (.int .i64 (t.at' : Int)) := by simp [World.cell?, hw1]
      have k2 : W1.cell? ⟨w1.heap.size, 2, none⟩ = some (.string (bs t.text)) := by simp [World.cell?, hw1]
      clear h1 h2 hV hbw hw1 hvw hv1 hcc hz1 hlw
      unfold tokv
      replace hW1 := hW1.symm
      obtain ⟨tx, htx⟩ : ∃ tx, bs t.text = tx := ⟨_, rfl⟩
      have HTX := hid htx
      rw [htx] at HKE HKX HCA k2 hgi hW1 ⊢
      clear htx
      go_wp2_with fail
      clear hW1
      go_region_held3 (fun W => W.cell? ⟨w1.heap.size, 1, none⟩ = some (.int .i64 (t.at' : Int)) ∧ W.cell? ⟨w1.heap.size, 2, none⟩ = some (.string tx)) (first | exact HKE.out _ (by assumption) | exact HKX.out _ _ _ (by refine ⟨?_, ?_⟩ <;> assumption))
        (first
          | (go_at_call 97; refine HCA.out.mono ?_; rintro e w' ⟨rfl, hb1⟩; obtain ⟨s1, s2⟩ := HKE.out w' hb1; have hvv := HVV.out w' hb1; have x0 : w'.cell? ⟨w.heap.size, 0, none⟩ = some (.string ⟨#[]⟩) := (by simp [World.cell?, hvv]); have x1 : w'.cell? ⟨w.heap.size, 1, none⟩ = some (.int .i64 0) := (by simp [World.cell?, hvv]); have xf := fun i => frozen_of_row w' w.heap.size i _ _ hvv))
      have hh := heap_setCell_same _ w.heap.size 1 _ _ (.int .i64 (t.at' : Int)) (heap_setCell_same w' w.heap.size 0 _ _ (.string tx) hvv)
      have HH := hid hh
      have hF := ((H1.out.more hb1 hlt).setNew (Nat.le_refl _) hlt 0 (.string tx)).setNew (Nat.le_refl _) hlt 1 (.int .i64 (t.at' : Int))
      have HF := hid hF
      have hb9 : Below w.heap.size w' ((w'.setCell ⟨w.heap.size, 0, none⟩ (.string tx)).setCell ⟨w.heap.size, 1, none⟩ (.int .i64 (t.at' : Int))) := ((Below.refl _ _).setCell (p := ⟨w.heap.size, 0, none⟩) (Nat.le_refl _) _).setCell (p := ⟨w.heap.size, 1, none⟩) (Nat.le_refl _) _
      have hr3 := H2.out.below hb1
      have HR3 : Hid (RdAt ((w'.setCell ⟨w.heap.size, 0, none⟩ (.string tx)).setCell ⟨w.heap.size, 1, none⟩ (.int .i64 (t.at' : Int))) R T a l) := ⟨(hb9.block R hlt).trans hr3.h, hr3.le, hr3.small, hr3.ev.below (hb9.mono (Nat.le_of_lt hlt))⟩
      generalize (w'.setCell ⟨w.heap.size, 0, none⟩ (.string tx)).setCell ⟨w.heap.size, 1, none⟩ (.int .i64 (t.at' : Int)) = W9 at *
      clear hh hF hb9 hr3 s1 s2 x0 x1 xf hvv HCA HKE HKX HVV k1 k2
      go_wp2_with fail
      refine bodyPost_ret (results_cell_row rfl _ _ w.heap.size 68 #[.string tx, .int .i64 (t.at' : Int)] (0, 0) _ rfl (by exact HH.out) Tryz.underlying68 rfl (by kernel_rfl)) rfl ?_
      refine ⟨HF.out, _, rfl, ?_, HR3.out⟩
      unfold VNam namv
      rw [HTX.out]

/-! ## numbers -/
theorem foldV_ge : ∀ (l : List UInt8) (n : Nat), n ≤ l.foldl (fun n c => n * 10 + (c.toNat - 48)) n
  | [], n => Nat.le_refl _
  | c :: r, n => by
    have := foldV_ge r (n * 10 + (c.toNat - 48))
    simp only [List.foldl_cons]
    omega
theorem isDg_iff (c : UInt8) : isDg c = true ↔ 48 ≤ c.toNat ∧ c.toNat ≤ 57 := by
  unfold isDg
  simp [UInt8.le_iff_toNat_le]
theorem pu10 : ∀ (l : List UInt8) (n : Nat), l.all isDg = true → n < 18446744073709551616 → Lib.parseUint10 n l = if 18446744073709551616 ≤ l.foldl (fun n c => n * 10 + (c.toNat - 48)) n then .range else .ok (l.foldl (fun n c => n * 10 + (c.toNat - 48)) n)
  | [], n, _, hn => by
    rw [Lib.parseUint10, if_neg (by simp; omega)]
    rfl
  | c :: r, n, h, hn => by
    simp only [List.all_cons, Bool.and_eq_true] at h
    have hc := (isDg_iff c).1 h.1
    have hg := foldV_ge r (n * 10 + (c.toNat - 48))
    rw [Lib.parseUint10, if_pos hc, List.foldl_cons]
    by_cases h1 : 1844674407370955162 ≤ n
    · rw [if_pos h1, if_pos (by omega)]
    · rw [if_neg h1]
      by_cases h2 : 18446744073709551616 ≤ n * 10 + (c.toNat - 48)
      · rw [if_pos h2, if_pos (by omega)]
      · rw [if_neg h2]
        exact pu10 r _ h.2 (by omega)
theorem atoi_num (l : List UInt8) (h0 : l ≠ []) (h : l.all isDg = true) : Lib.atoiAll l = if 9223372036854775807 < numV l then .range else .ok (numV l : Int) := by
  cases l with
  | nil => exact absurd rfl h0
  | cons c r =>
    have hc : 48 ≤ c.toNat ∧ c.toNat ≤ 57 := by
      simp only [List.all_cons, Bool.and_eq_true] at h
      exact (isDg_iff c).1 h.1
    have h1 : ¬ (c.toNat = 43 ∨ c.toNat = 45) := by omega
    have h2 : ¬ c.toNat = 45 := by omega
    have hp : Lib.parseMag (c :: r) = if 18446744073709551616 ≤ numV (c :: r) then .range else .ok (numV (c :: r)) := by
      unfold Lib.parseMag
      rw [if_neg (by simp), pu10 (c :: r) 0 h (by omega)]
      rfl
    simp only [Lib.atoiAll, if_neg h1]
    rw [hp]
    by_cases h3 : 18446744073709551616 ≤ numV (c :: r)
    · rw [if_pos h3, if_pos (by omega)]
    · rw [if_neg h3]
      by_cases h4 : 9223372036854775807 < numV (c :: r)
      · simp [h2, h4]
        omega
      · simp [h2, h4]
        omega
theorem tok3 {L : List UInt8} {a : Nat} (h : (tok L a).kind = 3) : (tok L a).text ≠ [] ∧ (tok L a).text.all isDg = true := by
  unfold tok at h ⊢
  generalize blank (L.drop a) = r at h ⊢
  unfold tokR at h ⊢
  split at h
  · simp at h
  · rename_i hr
    rw [if_neg hr]
    split at h
    · rename_i ht
      rw [if_pos ht]
      refine ⟨ht, ?_⟩
      cases hx : r.takeWhile inWd with
      | nil => exact absurd hx ht
      | cons c q =>
        rw [hx] at h
        simp only [wkd] at h
        split at h
        · exact absurd h (kwd_ne _).2.2.2
        · split at h
          · cases h
          · split at h
            · assumption
            · cases h
    · rename_i ht
      have h5 := (sgn_two r).1.2.1
      have h6 : (sgn r).1 = 3 := h
      omega

end Go.Proofs.YtmmgkdcojkmlcaaGreatDoor

namespace Go.Proofs.YtmmgkdcojkmlcaaGreatDoor
open Go.RowKit

mutual
/-- an expression in memory: B holds of each of its blocks -/
def PTB (B : Nat → Prop) (w : World) : Tr → Value → Prop
  | .node k nm at' n kids, v => ∃ b a c, v = .pointer (some ⟨b, 0, none⟩) ∧ B b ∧ w.heap[b]? = some (.cells #[.int .i64 (k : Int), .string (bs nm), .int .i64 (at' : Int), .int .i64 (n : Int), .slice a kids.length c] 190 (0, 0)) ∧ PTBs B w a kids 0
def PTBs (B : Nat → Prop) (w : World) (a : Option Addr) : List Tr → Nat → Prop
  | [], _ => True
  | t :: r, i => (∃ g v, a = some ⟨g, 0, none⟩ ∧ B g ∧ w.cell? ⟨g, i, none⟩ = some v ∧ PTB B w t v) ∧ PTBs B w a r (i + 1)
end
mutual
theorem PTB.keep {B B' : Nat → Prop} {w w' : World} (hk : ∀ b, B b → b < w.heap.size → B' b ∧ w'.heap[b]? = w.heap[b]?) : ∀ (t : Tr) (v : Value), PTB B w t v → PTB B' w' t v
  | .node k nm at' n kids, v, h => by
    obtain ⟨b, a, c, h1, h2, h3, h4⟩ := h
    obtain ⟨k1, k2⟩ := hk b h2 (Array.getElem?_eq_some_iff.1 h3).1
    exact ⟨b, a, c, h1, k1, k2.trans h3, PTBs.keep hk a kids 0 h4⟩
theorem PTBs.keep {B B' : Nat → Prop} {w w' : World} (hk : ∀ b, B b → b < w.heap.size → B' b ∧ w'.heap[b]? = w.heap[b]?) (a : Option Addr) : ∀ (ts : List Tr) (i : Nat), PTBs B w a ts i → PTBs B' w' a ts i
  | [], _, _ => trivial
  | t :: r, i, h => by
    obtain ⟨⟨g, v, h1, h2, h3, h4⟩, h5⟩ := h
    have hl := World.block_lt_of_cell? _ _ h3
    obtain ⟨k1, k2⟩ := hk g h2 hl
    refine ⟨⟨g, v, h1, k1, ?_, PTB.keep hk t v h4⟩, PTBs.keep hk a r (i + 1) h5⟩
    unfold World.cell? at h3 ⊢
    rw [k2]
    exact h3
end
/-- .. its blocks lie from lo on -/
def PT (lo : Nat) (w : World) (t : Tr) (v : Value) : Prop := PTB (fun b => lo ≤ b) w t v
def PTs (lo : Nat) (w : World) (a : Option Addr) (ts : List Tr) (i : Nat) : Prop := PTBs (fun b => lo ≤ b) w a ts i
theorem PT.keep {lo : Nat} {w w' : World} (hk : ∀ b, lo ≤ b → b < w.heap.size → w'.heap[b]? = w.heap[b]?) (t : Tr) (v : Value) (h : PT lo w t v) : PT lo w' t v := PTB.keep (fun b h1 h2 => ⟨h1, hk b h1 h2⟩) t v h
theorem PT.fr {R lo : Nat} {w w' : World} {t : Tr} {v : Value} (h : PT lo w t v) (f : Fr R w w') (hlo : R < lo) : PT lo w' t v := PT.keep (fun _ h1 h2 => f.keep (by omega) h2) t v h
theorem PT.below {lo : Nat} {w w' : World} {t : Tr} {v : Value} (h : PT lo w t v) (f : Below w.heap.size w w') : PT lo w' t v := PT.keep (fun b _ h2 => f.block b h2) t v h
theorem PT.mono {lo lo' : Nat} {w : World} {t : Tr} {v : Value} (h : PT lo w t v) (hl : lo' ≤ lo) : PT lo' w t v := PTB.keep (fun _ h1 _ => ⟨Nat.le_trans hl h1, rfl⟩) t v h
/-- parts that lie side by side in a block -/
theorem PTBs_of {B : Nat → Prop} {w : World} {g : Nat} (hg : B g) : ∀ (ts : List Tr) (i : Nat), (∀ j, j < ts.length → ∃ v, w.cell? ⟨g, i + j, none⟩ = some v ∧ ∀ t, ts[j]? = some t → PTB B w t v) → PTBs B w (some ⟨g, 0, none⟩) ts i
  | [], _, _ => trivial
  | t :: r, i, h => by
    obtain ⟨v, h1, h2⟩ := h 0 (by simp)
    refine ⟨⟨g, v, rfl, hg, h1, h2 t rfl⟩, PTBs_of hg r (i + 1) fun j hj => ?_⟩
    obtain ⟨v, h1, h2⟩ := h (j + 1) (by simpa using hj)
    exact ⟨v, by rw [show i + 1 + j = i + (j + 1) by omega]; exact h1, fun t ht => h2 t ht⟩
def VX (lo : Nat) : World → Value → Tr → Prop := fun w v t => PT lo w t v

set_option maxRecDepth 100000 in
set_option maxHeartbeats 1000000 in
theorem numX (R : Nat) (T : ByteArray) (j l : Nat) (w : World) (hR : RdAt w R T j l) :
    Calls Tryz.prog 120 #[.pointer (some ⟨R, 0, none⟩)] w (Rx w R T l l (VX w.heap.size) (pNum (by' T) j)) := by
  have HT := hid (takeX R T j l 3 w hR)
  have hlt := hR.lt
  have HSM := hid hR.small
  have HJ := hid hR.le
  unfold pNum
  clear hR
  cases hp : pTake (by' T) 3 j with
  | out => exact absurd hp pTake_out
  | bad er at' =>
    rw [hp] at HT
    show Calls _ _ _ _ (Rx w R T l l (VX w.heap.size) (.bad er at'))
    clear hp
    go_enter Tryz.func120, Tryz.ntmps120
    go_wp2_with fail
    refine HT.out.mono ?_
    rintro e w1 ⟨h1, rfl, h2⟩
    exact ⟨rfl, h1, rfl, h2⟩
  | ok t a =>
    rw [hp] at HT
    show Calls _ _ _ _ (Rx w R T l l (VX w.heap.size) (if 9223372036854775807 < numV t.text then .bad 3 t.at' else .ok (.node 0 [] 0 (numV t.text) []) a))
    obtain ⟨e1, _, e3⟩ := pTake_ok hp
    have h3 := tok3 e3
    rw [← e1] at h3
    have htl : t.text.length ≤ 4000 := by
      have h1 := tok_at (by' T) j (by rw [by_len]; exact HJ.out)
      rw [by_len] at h1
      have h2 : (tok (by' T) j).nx = (tok (by' T) j).at' + (tok (by' T) j).text.length := rfl
      have := HSM.out
      rw [e1]
      omega
    have hat := atoi_num t.text h3.1 h3.2
    have hsz := bs_size t.text
    have hdt : (bs t.text).data.toList = t.text := by simp [bs]
    clear hp e1 e3 h3
    by_cases hg : 9223372036854775807 < numV t.text
    · rw [if_pos hg] at hat ⊢
      have HA := hid (fun ev W hv hev => Tryz.strconv_Atoi_range (bs t.text) (by omega) (by rw [hdt]; exact hat) ev W hv hev)
      rw [hdt] at HA
      clear hsz hdt hat hg
      have hne : ∀ (x : TypeId) (y : Value) (w : World), (binOp BinOp.neq 31 (.iface x y) .nilIface).run Tryz.prog w = .ok (.bool true) w := fun x y w => by kernel_rfl
      go_enter Tryz.func120, Tryz.ntmps120
      go_wp2_with fail
      refine HT.out.mono ?_
      rintro e w1 ⟨h1, v, rfl, rfl, h2⟩
      obtain ⟨ev, he1, he2⟩ := (h2.below ((Below.refl _ _).alloc (Nat.le_refl _) (.cells #[.int .i64 (t.kind : Int), .int .i64 (t.at' : Int), .string (bs t.text)] 143))).ev.2
      have HCA := hid (HA.out ev _ he1 he2)
      have H1 := hid (h1.alloc hlt (.cells #[.int .i64 (t.kind : Int), .int .i64 (t.at' : Int), .string (bs t.text)] 143))
      have H2 := hid (h2.below ((Below.refl _ _).alloc (Nat.le_refl _) (.cells #[.int .i64 (t.kind : Int), .int .i64 (t.at' : Int), .string (bs t.text)] 143)))
      clear h1 h2 he1 he2 HA
      unfold tokv
      go_wp2_with fail
      refine HCA.out.mono ?_
      rintro e w2 ⟨N, rfl, hN, hN2, hb2⟩
      have c1 : w2.cell? ⟨w1.heap.size, 1, none⟩ = some (.int .i64 (t.at' : Int)) := (hb2.cell (p := ⟨w1.heap.size, 1, none⟩) (by simp)).trans (by unfold World.cell?; rw [heap_alloc_new]; rfl)
      have H3 := hid (H1.out.more hb2 hlt)
      have H4 := hid (H2.out.below hb2)
      clear hN hN2 hb2 HCA H1 H2
      go_wp2_with fail
      exact ⟨rfl, H3.out, rfl, a, H4.out⟩
    · rw [if_neg hg] at hat ⊢
      have HA := hid (fun W => Tryz.strconv_Atoi_ok (bs t.text) (by omega) _ (by rw [hdt]; exact hat) W)
      clear hsz hdt hat
      have heq : ∀ (w : World), (binOp BinOp.neq 31 .nilIface .nilIface).run Tryz.prog w = .ok (.bool false) w := fun w => by kernel_rfl
      go_enter Tryz.func120, Tryz.ntmps120
      go_wp2_with fail
      refine HT.out.mono ?_
      rintro e w1 ⟨h1, v, rfl, rfl, h2⟩
      have HCA := hid (HA.out (w1.alloc (.cells #[.int .i64 (t.kind : Int), .int .i64 (t.at' : Int), .string (bs t.text)] 143)))
      have H1 := hid (h1.alloc hlt (.cells #[.int .i64 (t.kind : Int), .int .i64 (t.at' : Int), .string (bs t.text)] 143))
      have H2 := hid (h2.below ((Below.refl _ _).alloc (Nat.le_refl _) (.cells #[.int .i64 (t.kind : Int), .int .i64 (t.at' : Int), .string (bs t.text)] 143)))
      clear h1 h2 HA
      unfold tokv
      go_wp2_with fail
      have HCB := hid (HCA.out.mono (R' := fun e w' => e = .returned (.tuple #[.int .i64 (numV t.text : Int), .nilIface]) ∧ Below (w1.alloc (.cells #[.int .i64 (t.kind : Int), .int .i64 (t.at' : Int), .string (bs t.text)] 143)).heap.size (w1.alloc (.cells #[.int .i64 (t.kind : Int), .int .i64 (t.at' : Int), .string (bs t.text)] 143)) w') (fun e w' h => ⟨h.1, by
        rcases h.2 with rfl | ⟨q, rfl⟩
        · exact Below.refl _ _
        · exact Lib.bytesWorld_below _ _ _⟩))
      refine HCB.out.mono ?_
      rintro e w2 ⟨rfl, hb2⟩
      have H3 := hid (H1.out.more hb2 hlt)
      have H4 := hid (H2.out.below hb2)
      clear hb2 HCA HCB H1 H2
      go_wp2_with fail
      go_ret
      have hb5 : Below w2.heap.size w2 (w2.alloc (.cells #[.int .i64 0, .string ⟨#[]⟩, .int .i64 0, .int .i64 (numV t.text : Int), .slice none 0 0] 190)) := (Below.refl _ _).alloc (Nat.le_refl _) _
      refine ⟨H3.out.more hb5 hlt, _, rfl, ?_, H4.out.below hb5⟩
      refine ⟨w2.heap.size, none, 0, rfl, ?_, heap_alloc_new w2 _, trivial⟩
      have := H3.out.size
      omega

end Go.Proofs.YtmmgkdcojkmlcaaGreatDoor

namespace Go.Proofs.YtmmgkdcojkmlcaaGreatDoor
open Go.RowKit

section
variable (R : Nat) (T : ByteArray) (f : Nat)
def EC : Prop := ∀ a l w, RdAt w R T a l → l ≤ 64 → pExpr (by' T) f a l ≠ .out → Calls Tryz.prog 81 #[.pointer (some ⟨R, 0, none⟩)] w (Rx w R T l l (VX w.heap.size) (pExpr (by' T) f a l))
def SC : Prop := ∀ a l w, RdAt w R T a l → l ≤ 64 → pSum (by' T) f a l ≠ .out → Calls Tryz.prog 103 #[.pointer (some ⟨R, 0, none⟩)] w (Rx w R T l l (VX w.heap.size) (pSum (by' T) f a l))
def PC : Prop := ∀ a l w, RdAt w R T a l → l ≤ 64 → pProd (by' T) f a l ≠ .out → Calls Tryz.prog 111 #[.pointer (some ⟨R, 0, none⟩)] w (Rx w R T l l (VX w.heap.size) (pProd (by' T) f a l))
def XC : Prop := ∀ a l w, RdAt w R T a l → l ≤ 64 → pPart (by' T) f a l ≠ .out → Calls Tryz.prog 115 #[.pointer (some ⟨R, 0, none⟩)] w (Rx w R T l l (VX w.heap.size) (pPart (by' T) f a l))
end
theorem PT.form {lo : Nat} {w : World} {t : Tr} {v : Value} (h : PT lo w t v) : ∃ b, v = .pointer (some ⟨b, 0, none⟩) := by
  cases t with
  | node k nm at' n kids => obtain ⟨b, a, c, h1, _⟩ := h; exact ⟨b, h1⟩
theorem pEnter_ok {L : List UInt8} {k a l j : Nat} {u : Unit} (h : pEnter L k a l = .ok u j) : (tok L a).kind = k ∧ j = (tok L a).nx ∧ l ≠ 64 := by
  unfold pEnter at h
  cases hp : pTake L k a with
  | out => exact absurd hp pTake_out
  | bad er at' => rw [hp] at h; cases h
  | ok t b =>
    rw [hp] at h
    obtain ⟨e1, e2, e3⟩ := pTake_ok hp
    simp only [Res.bind] at h
    split at h
    · cases h
    · injection h with _ h
      exact ⟨e3, by rw [← h, e2], by assumption⟩
theorem pEnter_out {L : List UInt8} {k a l : Nat} : pEnter L k a l ≠ .out := by
  unfold pEnter
  cases hp : pTake L k a with
  | out => exact absurd hp pTake_out
  | bad er at' => intro h; cases h
  | ok t b =>
    simp only [Res.bind]
    split <;> (intro h; cases h)
theorem pName_out {L : List UInt8} {a : Nat} : pName L a ≠ .out := by
  unfold pName
  cases hp : pTake L 2 a with
  | out => exact absurd hp pTake_out
  | bad er at' => intro h; cases h
  | ok t b =>
    simp only [Res.bind]
    split <;> (intro h; cases h)
/-- a node over parts that lie side by side -/
theorem PT_new {lo k : Nat} (ts : List Tr) (vs : List Value) (w : World) (hlen : vs.length = ts.length) (hlo : lo ≤ w.heap.size) (h : ∀ (i : Nat) t v, ts[i]? = some t → vs[i]? = some v → PT lo w t v) (nm : List UInt8) (at' : Nat) :
    PT lo ((w.alloc (.cells vs.toArray 70)).alloc (.cells #[.int .i64 (k : Int), .string (bs nm), .int .i64 (at' : Int), .int .i64 0, .slice (some ⟨w.heap.size, 0, none⟩) ts.length ts.length] 190)) (.node k nm at' 0 ts) (.pointer (some ⟨w.heap.size + 1, 0, none⟩)) := by
  obtain ⟨V, hV⟩ : ∃ V, V = w.alloc (.cells vs.toArray 70) := ⟨_, rfl⟩
  obtain ⟨W, hW⟩ : ∃ W, W = V.alloc (.cells #[.int .i64 (k : Int), .string (bs nm), .int .i64 (at' : Int), .int .i64 0, .slice (some ⟨w.heap.size, 0, none⟩) ts.length ts.length] 190) := ⟨_, rfl⟩
  have b1 : Below w.heap.size w V := by rw [hV]; exact (Below.refl _ _).alloc (Nat.le_refl _) _
  have b2 : Below V.heap.size V W := by rw [hW]; exact (Below.refl _ _).alloc (Nat.le_refl _) _
  have hs : V.heap.size = w.heap.size + 1 := by rw [hV]; simp
  have n1 : V.heap[w.heap.size]? = some (.cells vs.toArray 70 (0, 0)) := by rw [hV]; exact heap_alloc_new w _
  have n2 : W.heap[w.heap.size + 1]? = some (.cells #[.int .i64 (k : Int), .string (bs nm), .int .i64 (at' : Int), .int .i64 0, .slice (some ⟨w.heap.size, 0, none⟩) ts.length ts.length] 190 (0, 0)) := by rw [hW, ← hs]; exact heap_alloc_new V _
  have n3 : W.heap[w.heap.size]? = some (.cells vs.toArray 70 (0, 0)) := (b2.block _ (by omega)).trans n1
  rw [← hV, ← hW]
  refine ⟨_, _, _, rfl, (show lo ≤ w.heap.size + 1 by omega), n2, PTBs_of (B := fun b => lo ≤ b) hlo ts 0 fun j hj => ?_⟩
  have hj2 : j < vs.length := by omega
  refine ⟨vs[j], by simp [World.cell?, n3, hj2], fun t ht => ((h j t _ ht (by simp [hj2])).below b1).below b2⟩

set_option maxRecDepth 100000 in
set_option maxHeartbeats 1000000 in
theorem pairX (lo F : Nat) (hF : ∀ args w, (callFunc F args).run Tryz.prog w = .ok (.enter F args) w) (R : Nat) (T : ByteArray) (j l kd : Nat) (x : Tr) (v : Value) (w : World) (rb : Res Tr) (hR : RdAt w R T j l) (hx : PT lo w x v) (hlo : R < lo) (hlo2 : lo ≤ w.heap.size) (hrb : rb ≠ .out)
    (hB : ∀ W, RdAt W R T (tok (by' T) j).nx l → Calls Tryz.prog F #[.pointer (some ⟨R, 0, none⟩)] W (Rx W R T l l (VX W.heap.size) rb)) :
    Calls Tryz.prog 104 #[.pointer (some ⟨R, 0, none⟩), .int .i64 (kd : Int), v, .func (.func F) #[.pointer (some ⟨R, 0, none⟩)] #[]] w (Rx w R T l l (VX lo) (rb.bind fun y a => .ok (.node kd [] 0 0 [x, y]) a)) := by
  have hmf : ∀ (fn : Go.Fn) (first cap : Array Value) (w : World), (Instr.makeFunc fn first cap).run Tryz.prog w = .ok (.func fn first cap) w := fun _ _ _ _ => rfl
  obtain ⟨b, rfl⟩ := hx.form
  have c1 : w.cell? ⟨R, 1, none⟩ = some (.int .i64 ((tok (by' T) j).kind : Int)) := by simp [World.cell?, hR.h]
  have HT := hid (take_yes R T j l (tok (by' T) j).kind w hR rfl)
  have HX := hid hx
  have HB := hid hB
  have hlt := hR.lt
  clear hR hx hB
  generalize (tok (by' T) j).nx = nx at *
  generalize tokv (tok (by' T) j) = tv at *
  generalize (tok (by' T) j).kind = kj at *
  obtain ⟨rr, hrr⟩ : ∃ rr : Res Tr, rr = rb.bind fun y a => .ok (.node kd [] 0 0 [x, y]) a := ⟨_, rfl⟩
  rw [← hrr]
  go_enter Tryz.func104, Tryz.ntmps104
  go_wp2_with fail
  refine HT.out.mono ?_
  rintro e w1 ⟨rfl, h1, h2⟩
  have H1 := hid h1
  have HBC := hid (HB.out w1 h2)
  have HX1 := hid (HX.out.fr h1 hlo)
  clear h1 h2 HT HB HX c1
  go_wp2_with fail
  refine HBC.out.mono ?_
  intro e w2 he
  cases rb with
  | out => exact absurd rfl hrb
  | bad er at' =>
    obtain ⟨h3, rfl, h4⟩ := he
    subst hrr
    exact ⟨rfl, H1.out.trans h3, rfl, h4⟩
  | ok y a =>
    obtain ⟨h3, vy, rfl, hy, h4⟩ := he
    obtain ⟨b2, rfl⟩ := hy.form
    have H3 := hid (H1.out.trans h3)
    have HX2 := hid (HX1.out.fr h3 hlo)
    have HY := hid (hy.mono (by have := H1.out.size; omega) : PT lo w2 y _)
    have H4 := hid h4
    clear h3 h4 hy H1 HX1 HBC
    go_wp2_with fail
    go_ret
    subst hrr
    have hs := H3.out.size
    have hb5 : Below w2.heap.size w2 ((w2.alloc (.cells #[.pointer (some ⟨b, 0, none⟩), .pointer (some ⟨b2, 0, none⟩)] 70)).alloc (.cells #[.int .i64 (kd : Int), .string (bs []), .int .i64 ((0 : Nat) : Int), .int .i64 0, .slice (some ⟨w2.heap.size, 0, none⟩) 2 2] 190)) := ((Below.refl _ _).alloc (Nat.le_refl _) _).alloc (by simp) _
    have hpt := PT_new (k := kd) (lo := lo) [x, y] [.pointer (some ⟨b, 0, none⟩), .pointer (some ⟨b2, 0, none⟩)] w2 (by simp) (by omega) (fun i t v ht hv => by
      match i, ht, hv with
      | 0, ht, hv => simp at ht hv; subst ht hv; exact HX2.out
      | 1, ht, hv => simp at ht hv; subst ht hv; exact HY.out
      | n + 2, ht, hv => simp at ht) [] 0
    exact ⟨H3.out.more hb5 hlt, _, rfl, hpt, H4.out.below hb5⟩

set_option maxRecDepth 100000 in
set_option maxHeartbeats 1000000 in
theorem inBracketsX (R : Nat) (T : ByteArray) (f j l : Nat) (w : World) (hE : EC R T f) (hR : RdAt w R T j l) (hl : l ≤ 64) (r : Res Tr) (hr : r = (pEnter (by' T) 10 j l).bind fun _ a1 => (pExpr (by' T) f a1 (l + 1)).bind fun x a2 => (pTake (by' T) 11 a2).bind fun _ a3 => .ok x a3) (hro : r ≠ .out) :
    Calls Tryz.prog 118 #[.pointer (some ⟨R, 0, none⟩)] w (Rx w R T l l (VX w.heap.size) r) := by
  have HT := hid (enterX R T j l 10 w hR hl)
  have hlt := hR.lt
  have HE := hid hE
  have HR := hid hr
  have HRO := hid hro
  clear hR hr hro hE
  go_enter_defers Tryz.func118, Tryz.ntmps118
  go_wp2_with fail
  refine HT.out.mono ?_
  intro e w1 he
  cases hp : pEnter (by' T) 10 j l with
  | out => exact absurd hp pEnter_out
  | bad er at' =>
    rw [hp] at he
    obtain ⟨h1, rfl, h2⟩ := he
    have hr2 := HR.out
    rw [hp] at hr2
    subst hr2
    exact ⟨h1, rfl, h2⟩
  | ok u a1 =>
    rw [hp] at he
    obtain ⟨h1, v, rfl, rfl, h2⟩ := he
    have H1 := hid h1
    have H2 := hid h2
    have HP := hid hp
    clear h1 h2 hp HT
    go_wp2_with fail
    have hl64 : l + 1 ≤ 64 := by have := (pEnter_ok HP.out).2.2; omega
    have hr2 := HR.out
    rw [HP.out] at hr2
    simp only [Res.bind] at hr2
    have hne : pExpr (by' T) f a1 (l + 1) ≠ .out := fun e => by rw [e] at hr2; exact HRO.out hr2
    refine (HE.out a1 (l + 1) w1 H2.out hl64 hne).mono ?_
    intro e w2 he
    cases hx : pExpr (by' T) f a1 (l + 1) with
    | out => exact absurd hx hne
    | bad er at' =>
      rw [hx] at he hr2
      obtain ⟨h3, rfl, j2, h4⟩ := he
      (try simp only at hr2)
      subst hr2
      refine leave_pnc h4 hl ?_
      exact ⟨(H1.out.trans h3).set 4 _, rfl, j2, h4.level l⟩
    | ok x a2 =>
      rw [hx] at he hr2
      obtain ⟨h3, v, rfl, hv, h4⟩ := he
      obtain ⟨b, rfl⟩ := hv.form
      have HTT := hid (takeX R T a2 (l + 1) 11 w2 h4)
      have H3 := hid (H1.out.trans h3)
      have HV := hid (hv.mono H1.out.size : PT w.heap.size w2 x _)
      have H4 := hid h4
      have HR2 := hid hr2
      clear h3 h4 hv hne hx hr2 H1 H2
      go_wp2_with fail
      refine HTT.out.mono ?_
      intro e w3 he
      have hr2 := HR2.out
      (try simp only at hr2)
      cases ht : pTake (by' T) 11 a2 with
      | out => exact absurd ht pTake_out
      | bad er at' =>
        rw [ht] at he hr2
        obtain ⟨h5, rfl, j3, h6⟩ := he
        (try simp only at hr2)
        subst hr2
        refine leave_pnc h6 hl ?_
        exact ⟨(H3.out.trans h5).set 4 _, rfl, j3, h6.level l⟩
      | ok t a3 =>
        rw [ht] at he hr2
        obtain ⟨h5, v, rfl, rfl, h6⟩ := he
        (try simp only at hr2)
        have H5 := hid (H3.out.trans h5)
        have H6 := hid h6
        have HV2 := hid (HV.out.fr h5 hlt)
        have HR3 := hid hr2
        clear h5 h6 hr2 ht
        go_wp2_with fail
        have hr3 := HR3.out
        subst hr3
        refine leave_ret H6.out hl (results_tmp rfl _ _ _) ?_
        exact ⟨H5.out.set 4 _, _, rfl, HV2.out.fr ((Fr.refl R w3).set 4 _) hlt, H6.out.level l⟩

end Go.Proofs.YtmmgkdcojkmlcaaGreatDoor

namespace Go.Proofs.YtmmgkdcojkmlcaaGreatDoor
end Go.Proofs.YtmmgkdcojkmlcaaGreatDoor

namespace Go.Proofs.YtmmgkdcojkmlcaaGreatDoor
open Go.RowKit

set_option maxRecDepth 100000 in
set_option maxHeartbeats 2000000 in
theorem minusX (R : Nat) (T : ByteArray) (f j l : Nat) (w : World) (hX : XC R T f) (hR : RdAt w R T j l) (hl : l ≤ 64) (r : Res Tr) (hr : r = (pEnter (by' T) 17 j l).bind fun _ a0 => (pPart (by' T) f a0 (l + 1)).bind fun x a1 => .ok (.node 3 [] 0 0 [x]) a1) (hro : r ≠ .out) :
    Calls Tryz.prog 119 #[.pointer (some ⟨R, 0, none⟩)] w (Rx w R T l l (VX w.heap.size) r) := by
  have HT := hid (enterX R T j l 17 w hR hl)
  have hlt := hR.lt
  have HX := hid hX
  have HR := hid hr
  have HRO := hid hro
  clear hR hr hro hX
  go_enter_defers Tryz.func119, Tryz.ntmps119
  go_wp2_with fail
  refine HT.out.mono ?_
  intro e w0 he
  cases hp : pEnter (by' T) 17 j l with
  | out => exact absurd hp pEnter_out
  | bad er at' =>
    rw [hp] at he
    obtain ⟨h1, rfl, h2⟩ := he
    have hr2 := HR.out
    rw [hp] at hr2
    subst hr2
    exact ⟨h1, rfl, h2⟩
  | ok u a0 =>
    rw [hp] at he
    obtain ⟨h1, v, rfl, rfl, h2⟩ := he
    have hl64 : l + 1 ≤ 64 := by have := (pEnter_ok hp).2.2; omega
    have hr2 := HR.out
    rw [hp] at hr2
    simp only [Res.bind] at hr2
    have HF0 := hid h1
    have HD0 := hid h2
    have HR0 := hid hr2
    clear h1 h2 hp HT HR hr2
    have hr2 := HR0.out
    have hne : pPart (by' T) f a0 (l + 1) ≠ .out := fun e => by rw [e] at hr2; exact HRO.out hr2
    have HC := hid (HX.out a0 (l + 1) w0 HD0.out hl64 hne)
    clear hr2
    go_wp2_with fail
    refine HC.out.mono ?_
    intro e w1 he
    have hr2 := HR0.out
    cases ht : pPart (by' T) f a0 (l + 1) with
    | out => exact absurd ht hne
    | bad er at' =>
      rw [ht] at he hr2
      obtain ⟨h5, rfl, j3, h6⟩ := he
      (try simp only at hr2)
      subst hr2
      refine leave_pnc h6 hl ?_
      exact ⟨(HF0.out.trans h5).set 4 _, rfl, j3, h6.level l⟩
    | ok x a1 =>
      rw [ht] at he hr2
      obtain ⟨h5, v, rfl, hv, h6⟩ := he
      obtain ⟨qx, rfl⟩ := hv.form
      (try simp only at hr2)
      have HF1 := hid (HF0.out.trans h5)
      have HD1 := hid h6
      have HR1 := hid hr2
      have HVx := hid (hv.mono HF0.out.size : PT w.heap.size w1 x _)
      clear hv HC hne
      clear h5 h6 hr2 ht HF0 HD0 HR0
      go_wp2_with fail
      have hr3 := HR1.out
      subst hr3
      have hs := HF1.out.size
      have hb5 : Below w1.heap.size w1 ((w1.alloc (.cells #[.pointer (some ⟨qx, 0, none⟩)] 70)).alloc (.cells #[.int .i64 3, .string ⟨#[]⟩, .int .i64 0, .int .i64 0, .slice (some ⟨w1.heap.size, 0, none⟩) 1 1] 190)) := ((Below.refl _ _).alloc (Nat.le_refl _) _).alloc (by simp) _
      refine leave_ret (HD1.out.below hb5) hl (results_tmp rfl _ _ _) ?_
      have hpt := PT_new (k := 3) (lo := w.heap.size) [x] [.pointer (some ⟨qx, 0, none⟩)] w1 (by simp) (by omega) (fun i t v ht hv => ?_) [] 0
      · exact ⟨(HF1.out.more hb5 hlt).set 4 _, _, rfl, hpt.fr ((Fr.refl R _).set 4 _) hlt, (HD1.out.below hb5).level l⟩
      · match i, ht, hv with
        | 0, ht, hv => simp at ht hv; subst ht hv; exact HVx.out
        | n + 1, ht, hv => simp at ht

end Go.Proofs.YtmmgkdcojkmlcaaGreatDoor

namespace Go.Proofs.YtmmgkdcojkmlcaaGreatDoor
open Go.RowKit

set_option maxRecDepth 100000 in
set_option maxHeartbeats 2000000 in
theorem needX (R : Nat) (T : ByteArray) (f j l : Nat) (w : World) (hE : EC R T f) (hS : SC R T f) (hR : RdAt w R T j l) (hl : l ≤ 64) (r : Res Tr) (hr : r = (pEnter (by' T) 6 j l).bind fun _ a0 => (pSum (by' T) f a0 (l + 1)).bind fun x a1 => (pTake (by' T) 15 a1).bind fun _ a2 => (pSum (by' T) f a2 (l + 1)).bind fun y a3 => (pTake (by' T) 13 a3).bind fun _ a4 => (pExpr (by' T) f a4 (l + 1)).bind fun z a5 => .ok (.node 10 [] 0 0 [x, y, z]) a5) (hro : r ≠ .out) :
    Calls Tryz.prog 101 #[.pointer (some ⟨R, 0, none⟩)] w (Rx w R T l l (VX w.heap.size) r) := by
  have HT := hid (enterX R T j l 6 w hR hl)
  have hlt := hR.lt
  have HE := hid hE
  have HS := hid hS
  have HR := hid hr
  have HRO := hid hro
  clear hR hr hro hE hS
  go_enter_defers Tryz.func101, Tryz.ntmps101
  go_wp2_with fail
  refine HT.out.mono ?_
  intro e w0 he
  cases hp : pEnter (by' T) 6 j l with
  | out => exact absurd hp pEnter_out
  | bad er at' =>
    rw [hp] at he
    obtain ⟨h1, rfl, h2⟩ := he
    have hr2 := HR.out
    rw [hp] at hr2
    subst hr2
    exact ⟨h1, rfl, h2⟩
  | ok u a0 =>
    rw [hp] at he
    obtain ⟨h1, v, rfl, rfl, h2⟩ := he
    have hl64 : l + 1 ≤ 64 := by have := (pEnter_ok hp).2.2; omega
    have hr2 := HR.out
    rw [hp] at hr2
    simp only [Res.bind] at hr2
    have HF0 := hid h1
    have HD0 := hid h2
    have HR0 := hid hr2
    clear h1 h2 hp HT HR hr2
    have hr2 := HR0.out
    have hne : pSum (by' T) f a0 (l + 1) ≠ .out := fun e => by rw [e] at hr2; exact HRO.out hr2
    have HC := hid (HS.out a0 (l + 1) w0 HD0.out hl64 hne)
    clear hr2
    go_wp2_with fail
    refine HC.out.mono ?_
    intro e w1 he
    have hr2 := HR0.out
    cases ht : pSum (by' T) f a0 (l + 1) with
    | out => exact absurd ht hne
    | bad er at' =>
      rw [ht] at he hr2
      obtain ⟨h5, rfl, j3, h6⟩ := he
      (try simp only at hr2)
      subst hr2
      refine leave_pnc h6 hl ?_
      exact ⟨(HF0.out.trans h5).set 4 _, rfl, j3, h6.level l⟩
    | ok x a1 =>
      rw [ht] at he hr2
      obtain ⟨h5, v, rfl, hv, h6⟩ := he
      obtain ⟨qx, rfl⟩ := hv.form
      (try simp only at hr2)
      have HF1 := hid (HF0.out.trans h5)
      have HD1 := hid h6
      have HR1 := hid hr2
      have HVx := hid (hv.mono HF0.out.size : PT w.heap.size w1 x _)
      clear hv HC hne
      clear h5 h6 hr2 ht HF0 HD0 HR0
      have HT := hid (takeX R T a1 (l + 1) 15 w1 HD1.out)
      go_wp2_with fail
      refine HT.out.mono ?_
      intro e w2 he
      have hr2 := HR1.out
      cases ht : pTake (by' T) 15 a1 with
      | out => exact absurd ht pTake_out
      | bad er at' =>
        rw [ht] at he hr2
        obtain ⟨h5, rfl, j3, h6⟩ := he
        (try simp only at hr2)
        subst hr2
        refine leave_pnc h6 hl ?_
        exact ⟨(HF1.out.trans h5).set 4 _, rfl, j3, h6.level l⟩
      | ok t2 a2 =>
        rw [ht] at he hr2
        obtain ⟨h5, v, rfl, rfl, h6⟩ := he
        (try simp only at hr2)
        have HF2 := hid (HF1.out.trans h5)
        have HD2 := hid h6
        have HR2 := hid hr2
        replace HVx := hid (HVx.out.fr h5 hlt)
        clear HT
        clear h5 h6 hr2 ht HF1 HD1 HR1
        have hr2 := HR2.out
        have hne : pSum (by' T) f a2 (l + 1) ≠ .out := fun e => by rw [e] at hr2; exact HRO.out hr2
        have HC := hid (HS.out a2 (l + 1) w2 HD2.out hl64 hne)
        clear hr2
        go_wp2_with fail
        refine HC.out.mono ?_
        intro e w3 he
        have hr2 := HR2.out
        cases ht : pSum (by' T) f a2 (l + 1) with
        | out => exact absurd ht hne
        | bad er at' =>
          rw [ht] at he hr2
          obtain ⟨h5, rfl, j3, h6⟩ := he
          (try simp only at hr2)
          subst hr2
          refine leave_pnc h6 hl ?_
          exact ⟨(HF2.out.trans h5).set 4 _, rfl, j3, h6.level l⟩
        | ok y a3 =>
          rw [ht] at he hr2
          obtain ⟨h5, v, rfl, hv, h6⟩ := he
          obtain ⟨qy, rfl⟩ := hv.form
          (try simp only at hr2)
          have HF3 := hid (HF2.out.trans h5)
          have HD3 := hid h6
          have HR3 := hid hr2
          replace HVx := hid (HVx.out.fr h5 hlt)
          have HVy := hid (hv.mono HF2.out.size : PT w.heap.size w3 y _)
          clear hv HC hne
          clear h5 h6 hr2 ht HF2 HD2 HR2
          have HT := hid (takeX R T a3 (l + 1) 13 w3 HD3.out)
          go_wp2_with fail
          refine HT.out.mono ?_
          intro e w4 he
          have hr2 := HR3.out
          cases ht : pTake (by' T) 13 a3 with
          | out => exact absurd ht pTake_out
          | bad er at' =>
            rw [ht] at he hr2
            obtain ⟨h5, rfl, j3, h6⟩ := he
            (try simp only at hr2)
            subst hr2
            refine leave_pnc h6 hl ?_
            exact ⟨(HF3.out.trans h5).set 4 _, rfl, j3, h6.level l⟩
          | ok t4 a4 =>
            rw [ht] at he hr2
            obtain ⟨h5, v, rfl, rfl, h6⟩ := he
            (try simp only at hr2)
            have HF4 := hid (HF3.out.trans h5)
            have HD4 := hid h6
            have HR4 := hid hr2
            replace HVx := hid (HVx.out.fr h5 hlt)
            replace HVy := hid (HVy.out.fr h5 hlt)
            clear HT
            clear h5 h6 hr2 ht HF3 HD3 HR3
            have hr2 := HR4.out
            have hne : pExpr (by' T) f a4 (l + 1) ≠ .out := fun e => by rw [e] at hr2; exact HRO.out hr2
            have HC := hid (HE.out a4 (l + 1) w4 HD4.out hl64 hne)
            clear hr2
            go_wp2_with fail
            refine HC.out.mono ?_
            intro e w5 he
            have hr2 := HR4.out
            cases ht : pExpr (by' T) f a4 (l + 1) with
            | out => exact absurd ht hne
            | bad er at' =>
              rw [ht] at he hr2
              obtain ⟨h5, rfl, j3, h6⟩ := he
              (try simp only at hr2)
              subst hr2
              refine leave_pnc h6 hl ?_
              exact ⟨(HF4.out.trans h5).set 4 _, rfl, j3, h6.level l⟩
            | ok z a5 =>
              rw [ht] at he hr2
              obtain ⟨h5, v, rfl, hv, h6⟩ := he
              obtain ⟨qz, rfl⟩ := hv.form
              (try simp only at hr2)
              have HF5 := hid (HF4.out.trans h5)
              have HD5 := hid h6
              have HR5 := hid hr2
              replace HVx := hid (HVx.out.fr h5 hlt)
              replace HVy := hid (HVy.out.fr h5 hlt)
              have HVz := hid (hv.mono HF4.out.size : PT w.heap.size w5 z _)
              clear hv HC hne
              clear h5 h6 hr2 ht HF4 HD4 HR4
              go_wp2_with fail
              have hr3 := HR5.out
              subst hr3
              have hs := HF5.out.size
              have hb5 : Below w5.heap.size w5 ((w5.alloc (.cells #[.pointer (some ⟨qx, 0, none⟩), .pointer (some ⟨qy, 0, none⟩), .pointer (some ⟨qz, 0, none⟩)] 70)).alloc (.cells #[.int .i64 10, .string ⟨#[]⟩, .int .i64 0, .int .i64 0, .slice (some ⟨w5.heap.size, 0, none⟩) 3 3] 190)) := ((Below.refl _ _).alloc (Nat.le_refl _) _).alloc (by simp) _
              refine leave_ret (HD5.out.below hb5) hl (results_tmp rfl _ _ _) ?_
              have hpt := PT_new (k := 10) (lo := w.heap.size) [x, y, z] [.pointer (some ⟨qx, 0, none⟩), .pointer (some ⟨qy, 0, none⟩), .pointer (some ⟨qz, 0, none⟩)] w5 (by simp) (by omega) (fun i t v ht hv => ?_) [] 0
              · exact ⟨(HF5.out.more hb5 hlt).set 4 _, _, rfl, hpt.fr ((Fr.refl R _).set 4 _) hlt, (HD5.out.below hb5).level l⟩
              · match i, ht, hv with
                | 0, ht, hv => simp at ht hv; subst ht hv; exact HVx.out
                | 1, ht, hv => simp at ht hv; subst ht hv; exact HVy.out
                | 2, ht, hv => simp at ht hv; subst ht hv; exact HVz.out
                | n + 3, ht, hv => simp at ht

end Go.Proofs.YtmmgkdcojkmlcaaGreatDoor
