/- A region that draws its order: an operation that yields its value in every world of a kind, and for which every store of the region waits, may be taken first. Own law, after the shape of the library's: what is held need not hold behind the stores. Package source: the reader. -/
import Derived.OrdersHeld
import Derived.RegionTactic
import Derived.Test.YthemehdcakimgaiGreatDoorBgAB
import Derived.Test.YthemehdcakimgaiGreatDoorFld
import Derived.Deep.RegionHeld3
import Derived.Defers
namespace Go.Proofs.YthemehdcakimgaiGreatDoor
open Go

section
variable {P : Program} {ops : Array Oper} {Q : Exit → Act → World → Prop} {md : Region.Mode} {C : World → Prop} {st : List Nat}

/-- none of these has come up -/
def noSt (st : List Nat) (L : Array Bool) : Prop := ∀ s, s ∈ st → L.getD s true = false

theorem noSt_set {st : List Nat} {L : Array Bool} {j : Nat} (hj : j ∉ st) (h : noSt st L) : noSt st (L.setIfInBounds j true) := fun s hs => by
  have hne : j ≠ s := fun e => hj (by rw [e]; exact hs)
  rw [getD_set_ne true hne]; exact h s hs

/-- whatever order is picked, and C holds behind each operation as long as none of st has come up -/
def wpAnyS (P : Program) (md : Region.Mode) (ops : Array Oper) (Q : Exit → Act → World → Prop) (C : World → Prop) (st : List Nat) : Nat → Array Bool → Act → World → Prop
  | 0, listed, a, w => Region.ready md ops listed = [] ∧ Q .normal a w
  | fuel + 1, listed, a, w =>
    (Region.ready md ops listed = [] → Q .normal a w) ∧
    ∀ i ∈ Region.ready md ops listed, wpOp P ops Q i (fun a' w' => (noSt st (listed.setIfInBounds i true) → C w') ∧ wpAnyS P md ops Q C st fuel (listed.setIfInBounds i true) a' w') a w

theorem wpAny_of_S : ∀ (fuel : Nat) (listed : Array Bool) (a : Act) (w : World), wpAnyS P md ops Q C st fuel listed a w → wpAny P md ops Q fuel listed a w
  | 0, _, _, _, h => h
  | fuel + 1, _, _, _, h => ⟨h.1, fun i hi => wpOp_mono (fun a' w' h' => wpAny_of_S fuel _ a' w' h'.2) (h.2 i hi)⟩

/-- s waits for i, over so many edges at the most -/
def depB (md : Region.Mode) (ops : Array Oper) : Nat → Nat → Nat → Bool
  | 0, _, _ => false
  | f + 1, s, i => match ops[s]? with | some o => o.after.any fun e => Region.binds md e && (e.on == i || depB md ops f e.on i) | none => false

/-- what has come up waited for what had come up -/
def Cl (md : Region.Mode) (ops : Array Oper) (L : Array Bool) : Prop := ∀ (k : Nat) (o : Oper), ops[k]? = some o → L.getD k false = true → ∀ e ∈ o.after, Region.binds md e = true → L.getD e.on false = true
def clB (md : Region.Mode) (ops : Array Oper) (L : Array Bool) : Bool := (List.range ops.size).all fun k => !(L.getD k false) || match ops[k]? with | some o => o.after.all fun e => !(Region.binds md e) || L.getD e.on false | none => true
theorem cl_of_B {L : Array Bool} (h : clB md ops L = true) : Cl md ops L := fun k o hk hl e he hb => by
  have := List.all_eq_true.1 h k (List.mem_range.2 (Array.getElem?_eq_some_iff.1 hk).1)
  simp only [hk, hl, Bool.not_true, Bool.false_or] at this
  have := Array.all_eq_true'.1 this e he
  simpa [hb] using this

theorem getD_mono {L : Array Bool} {j x : Nat} (h : L.getD x false = true) : (L.setIfInBounds j true).getD x false = true := by
  by_cases e : j = x
  · subst e
    rcases Nat.lt_or_ge j L.size with g | g
    · simp [g]
    · simp [Array.getElem?_eq_none g] at h
  · simp only [Array.getD_eq_getD_getElem?] at *
    rw [Array.getElem?_setIfInBounds_ne e]; exact h

theorem Cl.set {L : Array Bool} (h : Cl md ops L) {j : Nat} (hj : ∀ o, ops[j]? = some o → ∀ e ∈ o.after, Region.binds md e = true → L.getD e.on false = true) : Cl md ops (L.setIfInBounds j true) := fun k o hk hl e he hb => by
  by_cases ejk : j = k
  · subst ejk; exact getD_mono (hj o hk e he hb)
  · refine getD_mono (h k o hk ?_ e he hb)
    simp only [Array.getD_eq_getD_getElem?] at *
    rw [Array.getElem?_setIfInBounds_ne ejk] at hl; exact hl

theorem dep_listed {L : Array Bool} (h : Cl md ops L) {i : Nat} : ∀ (f s : Nat), depB md ops f s i = true → (∀ o, ops[s]? = some o → ∀ e ∈ o.after, Region.binds md e = true → L.getD e.on false = true) → L.getD i false = true
  | 0, _, hd, _ => by simp [depB] at hd
  | f + 1, s, hd, hs => by
    unfold depB at hd
    split at hd
    · rename_i o ho
      obtain ⟨e, he, hb⟩ := Array.any_eq_true'.1 hd
      rw [Bool.and_eq_true, Bool.or_eq_true, beq_iff_eq] at hb
      have hl := hs o ho e he hb.1
      rcases hb.2 with g | g
      · rw [← g]; exact hl
      · exact dep_listed h f e.on g (fun o' ho' => h e.on o' ho' hl)
    · cases hd

/-- every one of st waits for i -/
def waitsB (md : Region.Mode) (ops : Array Oper) (st : List Nat) (i : Nat) : Bool := !st.contains i && st.all fun s => depB md ops 4 s i

theorem waits_spec {i : Nat} (h : waitsB md ops st i = true) : i ∉ st ∧ ∀ s, s ∈ st → depB md ops 4 s i = true := by
  unfold waitsB at h
  rw [Bool.and_eq_true] at h
  exact ⟨by simpa using h.1, fun s hs => List.all_eq_true.1 h.2 s hs⟩

theorem wpAnyS_first {i : Nat} {oi : Oper} {v : Value} (hi : ops[i]? = some oi) (hsel : ∀ (j : Nat) (o : Oper) cs b, ops[j]? = some o → o.op ≠ .select cs b)
    (hw : i ∉ st ∧ ∀ s, s ∈ st → depB md ops 4 s i = true)
    (hQ : ∀ c a w, Q (.panic c) (a.put oi.dst v) w → Q (.panic c) a w) :
    ∀ (fuel : Nat) (listed : Array Bool) (a : Act) (w : World),
      (∀ j oj, ops[j]? = some oj → j ≠ i → listed.getD j true = false → (∀ e ∈ oj.after, Region.binds md e = true → e.on ≠ i) → oi.apart ops oj = true) →
      i ∈ Region.ready md ops listed → YieldsIf P ops C oi v a → C w → noSt st listed → Cl md ops listed →
      wpAnyS P md ops Q C st fuel (listed.setIfInBounds i true) (a.put oi.dst v) w → wpAnyS P md ops Q C st (fuel + 1) listed a w := by
  intro fuel
  induction fuel with
  | zero =>
    intro listed a w _ hr hy hC hn hcl H
    refine ⟨fun h => (by rw [h] at hr; cases hr), fun j hj => ?_⟩
    by_cases hji : j = i
    · subst hji; exact hy.wpOp hi hC ⟨fun _ => hC, H⟩
    · have := ready_mono hj hji
      rw [H.1] at this
      cases this
  | succ fuel ih =>
    intro listed a w hfree hr hy hC hn hcl H
    refine ⟨fun h => (by rw [h] at hr; cases hr), fun j hj => ?_⟩
    by_cases hji : j = i
    · subst hji; exact hy.wpOp hi hC ⟨fun _ => hC, H⟩
    · have h1 := H.2 j (ready_mono hj hji)
      obtain ⟨hjun, oj, hoj, hall⟩ := mem_ready.1 hj
      have hnot : ∀ e ∈ oj.after, Region.binds md e = true → e.on ≠ i := fun e he hb heq => by
        have h1 := hall e he hb
        have h0 := (mem_ready.1 hr).1
        rw [heq] at h1
        rcases Nat.lt_or_ge i listed.size with h' | h'
        · simp [h'] at h0 h1; rw [h0] at h1; cases h1
        · simp [Array.getElem?_eq_none h'] at h1
      have hedges : ∀ o, ops[j]? = some o → ∀ e ∈ o.after, Region.binds md e = true → listed.getD e.on false = true := fun o ho e he hb => by
        rw [hoj] at ho
        obtain rfl := Option.some.inj ho
        exact hall e he hb
      have hiun : listed.getD i false = false := by
        have h0 := (mem_ready.1 hr).1
        rcases Nat.lt_or_ge i listed.size with h' | h'
        · simp [h'] at h0 ⊢; exact h0
        · simp [Array.getElem?_eq_none h']
      have hjst : j ∉ st := fun hjs => by
        have := dep_listed hcl 4 j (hw.2 j hjs) hedges
        rw [hiun] at this; cases this
      have hn1 : noSt st ((listed.setIfInBounds i true).setIfInBounds j true) := noSt_set hjst (noSt_set hw.1 hn)
      have h2 := wpOp_putIf hoj (hfree j oj hoj hji hjun hnot) (fun cs b => hsel i oi cs b hi) (fun cs b => hsel j oj cs b hoj) hQ hy h1
      have hfree' : ∀ k ok, ops[k]? = some ok → k ≠ i → (listed.setIfInBounds j true).getD k true = false →
          (∀ e ∈ ok.after, Region.binds md e = true → e.on ≠ i) → oi.apart ops ok = true := fun k ok hk hki hun hno => by
        refine hfree k ok hk hki ?_ hno
        by_cases hjk : j = k
        · subst hjk; exact hjun
        · rw [getD_set_ne true hjk] at hun; exact hun
      refine wpOp_mono (fun a' w' h3 => ⟨fun _ => h3.2.1 hn1, ih (listed.setIfInBounds j true) a' w' hfree' (ready_mono hr (Ne.symm hji)) h3.1 (h3.2.1 hn1) (noSt_set hjst hn) (hcl.set hedges) ?_⟩) h2
      rw [Array.setIfInBounds_comm _ _ hji]
      exact h3.2.2

theorem noSt_unset {st : List Nat} {L : Array Bool} {j : Nat} (hj : j ∉ st) (h : noSt st (L.setIfInBounds j true)) : noSt st L := fun s hs => by
  have hne : j ≠ s := fun e => hj (by rw [e]; exact hs)
  have := h s hs
  rwa [getD_set_ne true hne] at this

theorem wpAnyS_firstP {i : Nat} {oi : Oper} {v : Value} (hi : ops[i]? = some oi) (hsel : ∀ (j : Nat) (o : Oper) cs b, ops[j]? = some o → o.op ≠ .select cs b) (hw : i ∉ st)
    (hQ : ∀ c a w, Q (.panic c) (a.put oi.dst v) w → Q (.panic c) a w) :
    ∀ (fuel : Nat) (listed : Array Bool) (a : Act) (w : World),
      (∀ j oj, ops[j]? = some oj → j ≠ i → listed.getD j true = false → (∀ e ∈ oj.after, Region.binds md e = true → e.on ≠ i) → oi.apart ops oj = true) →
      i ∈ Region.ready md ops listed → YieldsIf P ops (fun _ => True) oi v a → (noSt st listed → C w) →
      wpAnyS P md ops Q C st fuel (listed.setIfInBounds i true) (a.put oi.dst v) w → wpAnyS P md ops Q C st (fuel + 1) listed a w := by
  intro fuel
  induction fuel with
  | zero =>
    intro listed a w _ hr hy hC H
    refine ⟨fun h => (by rw [h] at hr; cases hr), fun j hj => ?_⟩
    by_cases hji : j = i
    · subst hji; exact hy.wpOp hi trivial ⟨fun h => hC (noSt_unset hw h), H⟩
    · have := ready_mono hj hji
      rw [H.1] at this
      cases this
  | succ fuel ih =>
    intro listed a w hfree hr hy hC H
    refine ⟨fun h => (by rw [h] at hr; cases hr), fun j hj => ?_⟩
    by_cases hji : j = i
    · subst hji; exact hy.wpOp hi trivial ⟨fun h => hC (noSt_unset hw h), H⟩
    · have h1 := H.2 j (ready_mono hj hji)
      obtain ⟨hjun, oj, hoj, hall⟩ := mem_ready.1 hj
      have hnot : ∀ e ∈ oj.after, Region.binds md e = true → e.on ≠ i := fun e he hb heq => by
        have h1 := hall e he hb
        have h0 := (mem_ready.1 hr).1
        rw [heq] at h1
        rcases Nat.lt_or_ge i listed.size with h' | h'
        · simp [h'] at h0 h1; rw [h0] at h1; cases h1
        · simp [Array.getElem?_eq_none h'] at h1
      have h2 := wpOp_putIf hoj (hfree j oj hoj hji hjun hnot) (fun cs b => hsel i oi cs b hi) (fun cs b => hsel j oj cs b hoj) hQ hy h1
      have hfree' : ∀ k ok, ops[k]? = some ok → k ≠ i → (listed.setIfInBounds j true).getD k true = false →
          (∀ e ∈ ok.after, Region.binds md e = true → e.on ≠ i) → oi.apart ops ok = true := fun k ok hk hki hun hno => by
        refine hfree k ok hk hki ?_ hno
        by_cases hjk : j = k
        · subst hjk; exact hjun
        · rw [getD_set_ne true hjk] at hun; exact hun
      refine wpOp_mono (fun a' w' h3 => ?_) h2
      have hb : noSt st (listed.setIfInBounds j true) → C w' := fun hns => h3.2.1 (by
        rw [Array.setIfInBounds_comm _ _ (Ne.symm hji)]
        exact noSt_set hw hns)
      refine ⟨hb, ih (listed.setIfInBounds j true) a' w' hfree' (ready_mono hr (Ne.symm hji)) h3.1 hb ?_⟩
      rw [Array.setIfInBounds_comm _ _ hji]
      exact h3.2.2

/-- one that asks nothing of the world -/
theorem wpAnyS_pure {i : Nat} {oi : Oper} {v : Value} {fuel : Nat} {listed : Array Bool} {a : Act} {w : World} (hi : ops[i]? = some oi)
    (hs : Region.noSelect ops = true) (hf : Region.free md ops listed i = true) (hr : (Region.ready md ops listed).contains i = true) (hw : st.contains i = false)
    (hQ : ∀ c a w, Q (.panic c) (a.put oi.dst v) w → Q (.panic c) a w) (hy : YieldsIf P ops (fun _ => True) oi v a) (hC : noSt st listed → C w)
    (h : wpAnyS P md ops Q C st fuel (listed.setIfInBounds i true) (a.put oi.dst v) w) : wpAnyS P md ops Q C st (fuel + 1) listed a w :=
  wpAnyS_firstP hi (Region.noSelect_spec hs) (by simpa using hw) hQ fuel listed a w (Region.free_spec hi hf) (by simpa using hr) hy hC h

theorem wpAnyS_take {i : Nat} {oi : Oper} {v : Value} {fuel : Nat} {listed : Array Bool} {a : Act} {w : World} (hi : ops[i]? = some oi)
    (hs : Region.noSelect ops = true) (hf : Region.free md ops listed i = true) (hr : (Region.ready md ops listed).contains i = true) (hw : waitsB md ops st i = true) (hn : (st.all fun s => !(listed.getD s true)) = true) (hcl : clB md ops listed = true)
    (hQ : ∀ c a w, Q (.panic c) (a.put oi.dst v) w → Q (.panic c) a w) (hy : YieldsIf P ops C oi v a) (hC : C w)
    (h : wpAnyS P md ops Q C st fuel (listed.setIfInBounds i true) (a.put oi.dst v) w) : wpAnyS P md ops Q C st (fuel + 1) listed a w :=
  wpAnyS_first hi (Region.noSelect_spec hs) (waits_spec hw) hQ fuel listed a w (Region.free_spec hi hf) (by simpa using hr) hy hC (fun s hs => by have := List.all_eq_true.1 hn s hs; simpa using this) (cl_of_B hcl) h

/-- one alone may come up -/
theorem wpAnyS_one {i : Nat} {fuel : Nat} {listed : Array Bool} {a : Act} {w : World} (hr : Region.ready md ops listed = [i])
    (h : wpOp P ops Q i (fun a' w' => (noSt st (listed.setIfInBounds i true) → C w') ∧ wpAnyS P md ops Q C st fuel (listed.setIfInBounds i true) a' w') a w) : wpAnyS P md ops Q C st (fuel + 1) listed a w :=
  ⟨(fun h0 => by rw [hr] at h0; cases h0), fun j hj => by rw [hr] at hj; obtain rfl := List.mem_singleton.1 hj; exact h⟩

/-- one of two may come up -/
theorem wpAnyS_two {i j : Nat} {fuel : Nat} {listed : Array Bool} {a : Act} {w : World} (hr : Region.ready md ops listed = [i, j])
    (h1 : wpOp P ops Q i (fun a' w' => (noSt st (listed.setIfInBounds i true) → C w') ∧ wpAnyS P md ops Q C st fuel (listed.setIfInBounds i true) a' w') a w)
    (h2 : wpOp P ops Q j (fun a' w' => (noSt st (listed.setIfInBounds j true) → C w') ∧ wpAnyS P md ops Q C st fuel (listed.setIfInBounds j true) a' w') a w) : wpAnyS P md ops Q C st (fuel + 1) listed a w :=
  ⟨(fun h0 => by rw [hr] at h0; cases h0), fun k hk => by
    rw [hr] at hk
    rcases List.mem_cons.1 hk with rfl | hk
    · exact h1
    · obtain rfl := List.mem_singleton.1 hk; exact h2⟩

theorem wpAnyS_done {listed : Array Bool} {a : Act} {w : World} (hr : Region.ready md ops listed = []) (h : Q .normal a w) :
    ∀ fuel, wpAnyS P md ops Q C st fuel listed a w
  | 0 => ⟨hr, h⟩
  | _ + 1 => ⟨fun _ => h, by rw [hr]; simp⟩

theorem wp_region_S {id : Nat} {a : Act} {w : World} (hm : P.follows .mixedOrders = true)
    (h : wpAnyS P .any ops Q C st ops.size (Array.replicate ops.size false) a w.drew) : (Code.region id ops true).wp P Q a w :=
  wp_region_any hm (wpAny_of_S _ _ _ _ h)

end
end Go.Proofs.YthemehdcakimgaiGreatDoor

namespace Go.Proofs.YthemehdcakimgaiGreatDoor
open Go.RowKit

/-- one block alone of those that were there may have turned -/
def Fr (R : Nat) (w w' : World) : Prop := Below R w w' ∧ ∀ b, b < w.heap.size → b ≠ R → w'.heap[b]? = w.heap[b]?
section
variable {R : Nat} {w w1 w2 : World}
theorem Fr.size (h : Fr R w w1) : w.heap.size ≤ w1.heap.size := h.1.size
theorem Fr.refl (R : Nat) (w : World) : Fr R w w := ⟨Below.refl _ _, fun _ _ _ => rfl⟩
theorem Fr.trans (h : Fr R w w1) (g : Fr R w1 w2) : Fr R w w2 := ⟨h.1.trans g.1, fun b hb hne => (g.2 b (Nat.lt_of_lt_of_le hb h.size) hne).trans (h.2 b hb hne)⟩
theorem Fr.below (h : Below w.heap.size w w1) (hR : R ≤ w.heap.size) : Fr R w w1 := ⟨h.mono hR, fun b hb _ => h.block b hb⟩
theorem Fr.more (h : Fr R w w1) (g : Below w1.heap.size w1 w2) (hR : R < w.heap.size) : Fr R w w2 := h.trans (Fr.below g (by have := h.size; omega))
theorem Fr.alloc (h : Fr R w w1) (hR : R < w.heap.size) (o : Obj) : Fr R w (w1.alloc o) := h.more ((Below.refl _ _).alloc (Nat.le_refl _) _) hR
theorem Fr.drew (h : Fr R w w1) : Fr R w w1.drew := ⟨h.1.drew, h.2⟩
theorem Fr.set (h : Fr R w w1) (i : Nat) (v : Value) : Fr R w (w1.setCell ⟨R, i, none⟩ v) :=
  ⟨h.1.setCell (p := ⟨R, i, none⟩) (Nat.le_refl _) v, fun b hb hne => (heap_setCell_other w1 ⟨R, i, none⟩ b v hne).trans (h.2 b hb hne)⟩
/-- a block of one's own -/
theorem Fr.setNew (h : Fr R w w1) {g : Nat} (hg : w.heap.size ≤ g) (hR : R < w.heap.size) (i : Nat) (v : Value) : Fr R w (w1.setCell ⟨g, i, none⟩ v) :=
  ⟨h.1.setCell (p := ⟨g, i, none⟩) (by show R ≤ g; omega) v, fun b hb hne => (heap_setCell_other w1 ⟨g, i, none⟩ b v (by show b ≠ g; omega)).trans (h.2 b hb hne)⟩
theorem Fr.keep (h : Fr R w w1) {b : Nat} (h1 : R + 1 ≤ b) (h2 : b < w.heap.size) : w1.heap[b]? = w.heap[b]? := h.2 b h2 (by omega)
theorem Fr.cell (h : Fr R w w1) {b i : Nat} {v : Value} (h1 : b ≠ R) (hc : w.cell? ⟨b, i, none⟩ = some v) : w1.cell? ⟨b, i, none⟩ = some v := by
  have hl := World.block_lt_of_cell? _ _ hc
  unfold World.cell? at hc ⊢
  rw [h.2 b hl h1]
  exact hc
end
/-- the library's own error is there -/
def EvR (w : World) (R : Nat) : Prop := 6 < R ∧ ∃ ev, w.cell? ⟨6, 0, none⟩ = some ev ∧ (ev = .nilIface ∨ ∃ te pe, ev = .iface te pe)
/-- a reader in memory: its text, the next token, how many levels -/
structure RdAt (w : World) (R : Nat) (T : ByteArray) (j l : Nat) : Prop where
  h : w.heap[R]? = some (.cells #[.string T, .int .i64 ((tok (by' T) j).kind : Int), .int .i64 ((tok (by' T) j).at' : Int), .string (bs (tok (by' T) j).text), .int .i64 (l : Int)] 104 (0, 0))
  le : j ≤ T.size
  small : T.size ≤ 4000
  ev : EvR w R
section
variable {w w1 : World} {R : Nat} {T : ByteArray} {j l : Nat}
theorem EvR.below (h : EvR w R) (g : Below R w w1) : EvR w1 R := by
  obtain ⟨h1, ev, h2, h3⟩ := h
  exact ⟨h1, ev, (g.cell (p := ⟨6, 0, none⟩) h1).trans h2, h3⟩
theorem RdAt.lt (h : RdAt w R T j l) : R < w.heap.size := (Array.getElem?_eq_some_iff.1 h.h).1
theorem RdAt.below (h : RdAt w R T j l) (g : Below w.heap.size w w1) : RdAt w1 R T j l := ⟨(g.block _ h.lt).trans h.h, h.le, h.small, h.ev.below (g.mono (Nat.le_of_lt h.lt))⟩
theorem RdAt.drew (h : RdAt w R T j l) : RdAt w.drew R T j l := ⟨h.h, h.le, h.small, h.ev⟩
end
/-- the reading of a text that is no program ends -/
def pncF (at' er : Nat) : Ending := .panicked [{ v := .iface 78 (.agg #[.int .i64 (at' : Int), .int .i64 (er : Int)]), recovered := false }]

set_option maxRecDepth 100000 in
set_option maxHeartbeats 1000000 in
theorem take_no (R : Nat) (T : ByteArray) (j l k : Nat) (w : World) (hR : RdAt w R T j l) (hk : ¬ (tok (by' T) j).kind = k) :
    Calls Tryz.prog 72 #[.pointer (some ⟨R, 0, none⟩), .int .i64 (k : Int)] w fun e w' => e = pncF (tok (by' T) j).at' 5 ∧ Below w.heap.size w w' := by
  have c1 : w.cell? ⟨R, 1, none⟩ = some (.int .i64 ((tok (by' T) j).kind : Int)) := by simp [World.cell?, hR.h]
  have c2 : w.cell? ⟨R, 2, none⟩ = some (.int .i64 ((tok (by' T) j).at' : Int)) := by simp [World.cell?, hR.h]
  have c3 : w.cell? ⟨R, 3, none⟩ = some (.string (bs (tok (by' T) j).text)) := by simp [World.cell?, hR.h]
  have hlt := hR.lt
  generalize (tok (by' T) j).kind = kd at *
  generalize (tok (by' T) j).at' = at' at *
  generalize bs (tok (by' T) j).text = tx at *
  have hkb : ((kd : Int) != (k : Int)) = true := by simp; omega
  clear hR hk
  go_enter Tryz.func72, Tryz.ntmps72
  go_wp2_with fail
  exact ⟨rfl, rfl, ((Below.refl _ _).alloc (Nat.le_refl _) _).alloc (by simp) _⟩

set_option maxRecDepth 100000 in
set_option maxHeartbeats 400000 in
theorem take_yes (R : Nat) (T : ByteArray) (j l k : Nat) (w : World) (hR : RdAt w R T j l) (hk : (tok (by' T) j).kind = k) :
    Calls Tryz.prog 72 #[.pointer (some ⟨R, 0, none⟩), .int .i64 (k : Int)] w fun e w' => e = .returned (tokv (tok (by' T) j)) ∧ Fr R w w' ∧ RdAt w' R T (tok (by' T) j).nx l := by
  have c1 : w.cell? ⟨R, 1, none⟩ = some (.int .i64 ((tok (by' T) j).kind : Int)) := by simp [World.cell?, hR.h]
  have c2 : w.cell? ⟨R, 2, none⟩ = some (.int .i64 ((tok (by' T) j).at' : Int)) := by simp [World.cell?, hR.h]
  have c3 : w.cell? ⟨R, 3, none⟩ = some (.string (bs (tok (by' T) j).text)) := by simp [World.cell?, hR.h]
  have hta := tok_at (by' T) j (by rw [by_len]; exact hR.le)
  rw [by_len] at hta
  have hmx : Tryz.prog.follows .mixedOrders = true := by kernel_rfl
  have HRD := hid hR
  have hlt := hR.lt
  have hsm := hR.small
  have HNX : Hid ((tok (by' T) j).nx ≤ T.size) := hta.2.1
  have hsz : (bs (tok (by' T) j).text).size = (tok (by' T) j).text.length := bs_size _
  have HNE : Hid ((tok (by' T) j).nx = (tok (by' T) j).at' + (tok (by' T) j).text.length) := rfl
  obtain ⟨V, hV⟩ : ∃ V, V = (w.alloc (.cells #[.int .i64 0, .int .i64 0, .string ⟨#[]⟩] 101)).alloc (.cells #[.int .i64 ((tok (by' T) j).kind : Int), .int .i64 ((tok (by' T) j).at' : Int), .string (bs (tok (by' T) j).text)] 101) := ⟨_, rfl⟩
  have hb0 : Below w.heap.size w V := by rw [hV]; exact ((Below.refl _ _).alloc (Nat.le_refl _) _).alloc (by simp) _
  have hvs : V.heap.size = w.heap.size + 2 := by rw [hV]; simp
  have hr1 : V.heap[w.heap.size]? = some (.cells #[.int .i64 0, .int .i64 0, .string ⟨#[]⟩] 101 (0, 0)) := by
    rw [hV, heap_alloc_old _ _ (by simp)]
    exact heap_alloc_new w _
  have hr2 : V.heap[w.heap.size + 1]? = some (.cells #[.int .i64 ((tok (by' T) j).kind : Int), .int .i64 ((tok (by' T) j).at' : Int), .string (bs (tok (by' T) j).text)] 101 (0, 0)) := by
    rw [hV]
    have := heap_alloc_new (w.alloc (.cells #[.int .i64 0, .int .i64 0, .string ⟨#[]⟩] 101)) (.cells #[.int .i64 ((tok (by' T) j).kind : Int), .int .i64 ((tok (by' T) j).at' : Int), .string (bs (tok (by' T) j).text)] 101)
    simpa using this
  have HRV : Hid (V.heap[R]? = some (.cells #[.string T, .int .i64 ((tok (by' T) j).kind : Int), .int .i64 ((tok (by' T) j).at' : Int), .string (bs (tok (by' T) j).text), .int .i64 (l : Int)] 104 (0, 0))) := (hR.below hb0).h
  have HEV := hid (hR.below hb0).ev
  have HTK := hid (fun W (a : Nat) (ha : a ≤ T.size) => tokenAt_any T a W (by omega) ha)
  have HTV : Hid (tokv (tok (by' T) j) = .agg #[.int .i64 ((tok (by' T) j).kind : Int), .int .i64 ((tok (by' T) j).at' : Int), .string (bs (tok (by' T) j).text)]) := rfl
  rw [HTV.out]
  generalize (tok (by' T) j).kind = kd at *
  generalize (tok (by' T) j).at' = at' at *
  generalize (tok (by' T) j).text = tl at *
  generalize (tok (by' T) j).nx = nx at *
  generalize bs tl = tx at *
  have hkb : ((kd : Int) != (k : Int)) = false := by rw [hk]; simp
  have HV := hid (show ∀ W, Below V.heap.size V W → W.heap[w.heap.size]? = some (.cells #[.int .i64 0, .int .i64 0, .string ⟨#[]⟩] 101 (0, 0)) ∧ W.heap[w.heap.size + 1]? = some (.cells #[.int .i64 (kd : Int), .int .i64 (at' : Int), .string tx] 101 (0, 0)) ∧ W.heap[R]? = V.heap[R]? from fun W h => ⟨(h.block _ (by omega)).trans hr1, (h.block _ (by omega)).trans hr2, h.block _ (by omega)⟩)
  have HB0 := hid hb0
  have HVS := hid hvs
  have hnx : (nx : Int) = (at' : Int) + (tx.size : Int) := by have := HNE.out; omega
  have hwr : IntKind.i64.wrap ((at' : Int) + (tx.size : Int)) = (at' : Int) + (tx.size : Int) := by rw [IntKind.wrap_i64]; have := HNX.out; omega
  have hb00 : Below V.heap.size V V.drew := (Below.refl _ _).drew
  have HCA := hid ((HTK.out V.drew nx HNX.out).mono (R' := fun e w' => e = .returned (.agg #[.int .i64 ((tok (by' T) nx).kind : Int), .int .i64 ((tok (by' T) nx).at' : Int), .string (bs (tok (by' T) nx).text)]) ∧ Below V.heap.size V w') (fun e w' h => ⟨h.1, hb00.trans h.2⟩))
  rw [hnx] at HCA
  clear hnx
  have HEN : Hid (∀ W, W.heap[R]? = some (.cells #[.string T, .int .i64 ((tok (by' T) nx).kind : Int), .int .i64 ((tok (by' T) nx).at' : Int), .string (bs (tok (by' T) nx).text), .int .i64 (l : Int)] 104 (0, 0)) → EvR W R → RdAt W R T nx l) := fun W h1 h2 => ⟨h1, HNX.out, hsm, h2⟩
  generalize (tok (by' T) nx).kind = kd2 at *
  generalize (tok (by' T) nx).at' = at2 at *
  generalize bs (tok (by' T) nx).text = tx2 at *
  have r0 : V.cell? ⟨R, 0, none⟩ = some (.string T) := by simp [World.cell?, HRV.out]
  have t1 : V.cell? ⟨w.heap.size + 1, 1, none⟩ = some (.int .i64 (at' : Int)) := by simp [World.cell?, hr2]
  have t2 : V.cell? ⟨w.heap.size + 1, 2, none⟩ = some (.string tx) := by simp [World.cell?, hr2]
  have HKE : Hid (∀ W, Below V.heap.size V W → W.cell? ⟨R, 0, none⟩ = some (.string T) ∧ W.cell? ⟨w.heap.size + 1, 1, none⟩ = some (.int .i64 (at' : Int)) ∧ W.cell? ⟨w.heap.size + 1, 2, none⟩ = some (.string tx)) := fun W h => ⟨(h.cell (p := ⟨R, 0, none⟩) (World.block_lt_of_cell? _ _ r0)).trans r0, (h.cell (p := ⟨w.heap.size + 1, 1, none⟩) (World.block_lt_of_cell? _ _ t1)).trans t1, (h.cell (p := ⟨w.heap.size + 1, 2, none⟩) (World.block_lt_of_cell? _ _ t2)).trans t2⟩
  have HKX : Hid (∀ (W : World) (a b c : Value), (W.cell? ⟨R, 0, none⟩ = some (.string T) ∧ W.cell? ⟨w.heap.size + 1, 1, none⟩ = some (.int .i64 (at' : Int)) ∧ W.cell? ⟨w.heap.size + 1, 2, none⟩ = some (.string tx)) → ((((W.setCell ⟨R, 1, none⟩ a).setCell ⟨R, 2, none⟩ b).setCell ⟨R, 3, none⟩ c).cell? ⟨R, 0, none⟩ = some (.string T) ∧ (((W.setCell ⟨R, 1, none⟩ a).setCell ⟨R, 2, none⟩ b).setCell ⟨R, 3, none⟩ c).cell? ⟨w.heap.size + 1, 1, none⟩ = some (.int .i64 (at' : Int)) ∧ (((W.setCell ⟨R, 1, none⟩ a).setCell ⟨R, 2, none⟩ b).setCell ⟨R, 3, none⟩ c).cell? ⟨w.heap.size + 1, 2, none⟩ = some (.string tx))) := fun W a b c h => by
    have o : ∀ p : Addr, p.block ≠ R ∨ p.off = 0 → (((W.setCell ⟨R, 1, none⟩ a).setCell ⟨R, 2, none⟩ b).setCell ⟨R, 3, none⟩ c).cell? p = W.cell? p := fun p hp => by
      have q : ∀ i, 0 < i → (⟨R, i, none⟩ : Addr) ≠ p := fun i hi e => by
        subst e
        rcases hp with h | h
        · exact h rfl
        · simp at h; omega
      rw [World.cell?_setCell_other _ _ _ _ (q 3 (by decide)), World.cell?_setCell_other _ _ _ _ (q 2 (by decide)), World.cell?_setCell_other _ _ _ _ (q 1 (by decide))]
    exact ⟨(o _ (.inr rfl)).trans h.1, (o _ (.inl (by show w.heap.size + 1 ≠ R; omega))).trans h.2.1, (o _ (.inl (by show w.heap.size + 1 ≠ R; omega))).trans h.2.2⟩
  clear hR hk hta hb0 hvs hr1 hr2 HTK HTV r0 t1 t2 hsz
  go_enter Tryz.func72, Tryz.ntmps72
  go_wp2_with fail
  rw [← hV]
  clear hV
  go_region_held3 (fun W => W.cell? ⟨R, 0, none⟩ = some (.string T) ∧ W.cell? ⟨w.heap.size + 1, 1, none⟩ = some (.int .i64 (at' : Int)) ∧ W.cell? ⟨w.heap.size + 1, 2, none⟩ = some (.string tx)) (first | exact HKE.out _ (by assumption) | exact HKX.out _ _ _ _ (by refine ⟨?_, ?_, ?_⟩ <;> assumption))
    (first
      | (go_at_call 46; refine HCA.out.mono ?_; rintro e w' ⟨rfl, hb1⟩; obtain ⟨v1, v2, v3⟩ := HV.out w' hb1; have hRw : w'.heap[R]? = some (.cells #[.string T, .int .i64 (kd : Int), .int .i64 (at' : Int), .string tx, .int .i64 (l : Int)] 104 (0, 0)) := v3.trans HRV.out; obtain ⟨s0, s1, s2⟩ := HKE.out w' hb1; have x1 : w'.cell? ⟨R, 1, none⟩ = some (.int .i64 (kd : Int)) := (by simp [World.cell?, hRw]); have x2 : w'.cell? ⟨R, 2, none⟩ = some (.int .i64 (at' : Int)) := (by simp [World.cell?, hRw]); have x3 : w'.cell? ⟨R, 3, none⟩ = some (.string tx) := (by simp [World.cell?, hRw]); have xf := fun i => frozen_of_row w' R i _ _ hRw))
  obtain ⟨W2, hW2⟩ : ∃ W2, W2 = ((w'.setCell ⟨R, 1, none⟩ (.int .i64 (kd2 : Int))).setCell ⟨R, 2, none⟩ (.int .i64 (at2 : Int))).setCell ⟨R, 3, none⟩ (.string tx2) := ⟨_, rfl⟩
  have hF0 : Fr R w w' := (Fr.below HB0.out (by omega)).more hb1 hlt
  have hF2 : Fr R w W2 := by rw [hW2]; exact ((hF0.set 1 _).set 2 _).set 3 _
  have hR2 : W2.heap[R]? = some (.cells #[.string T, .int .i64 (kd2 : Int), .int .i64 (at2 : Int), .string tx2, .int .i64 (l : Int)] 104 (0, 0)) := by
    rw [hW2]
    exact heap_setCell_same _ R 3 _ _ _ (heap_setCell_same _ R 2 _ _ _ (heap_setCell_same _ R 1 _ _ _ hRw))
  have ho : ∀ b, b ≠ R → W2.heap[b]? = w'.heap[b]? := fun b hb => by rw [hW2, heap_setCell_other _ _ _ _ hb, heap_setCell_other _ _ _ _ hb, heap_setCell_other _ _ _ _ hb]
  have hE2 : EvR W2 R := HEV.out.below ((hb1.mono (by have := HVS.out; omega)).trans (by rw [hW2]; exact (((Below.refl R w').setCell (p := ⟨R, 1, none⟩) (Nat.le_refl _) _).setCell (p := ⟨R, 2, none⟩) (Nat.le_refl _) _).setCell (p := ⟨R, 3, none⟩) (Nat.le_refl _) _))
  have hq1 := (ho w.heap.size (by omega)).trans v1
  have hq2 := (ho (w.heap.size + 1) (by omega)).trans v2
  have HQ1 := hid hq1
  have HF2 := hid hF2
  have HR2 := hid (HEN.out W2 hR2 hE2)
  have y0 : W2.cell? ⟨w.heap.size + 1, 0, none⟩ = some (.int .i64 (kd : Int)) := by simp [World.cell?, hq2]
  have y1 : W2.cell? ⟨w.heap.size + 1, 1, none⟩ = some (.int .i64 (at' : Int)) := by simp [World.cell?, hq2]
  have y2 : W2.cell? ⟨w.heap.size + 1, 2, none⟩ = some (.string tx) := by simp [World.cell?, hq2]
  have z0 : W2.cell? ⟨w.heap.size, 0, none⟩ = some (.int .i64 0) := by simp [World.cell?, hq1]
  have z1 : W2.cell? ⟨w.heap.size, 1, none⟩ = some (.int .i64 0) := by simp [World.cell?, hq1]
  have z2 : W2.cell? ⟨w.heap.size, 2, none⟩ = some (.string ⟨#[]⟩) := by simp [World.cell?, hq1]
  have zf := fun i => frozen_of_row W2 w.heap.size i _ _ hq1
  have HLT := hid hlt
  rw [← hW2]
  clear hW2 hF0 hF2 hR2 ho hE2 hq1 hq2 hRw x1 x2 x3 xf s0 s1 s2 v1 v2 v3 hb1 HKE HKX HCA HV HEN HRV HEV c1 c2 c3
  go_wp2_with fail
  have hh := heap_setCell_same _ w.heap.size 2 _ _ (.string tx) (heap_setCell_same _ w.heap.size 1 _ _ (.int .i64 (at' : Int)) (heap_setCell_same W2 w.heap.size 0 _ _ (.int .i64 (kd : Int)) HQ1.out))
  refine bodyPost_ret (results_cell_row rfl _ _ w.heap.size 101 #[.int .i64 (kd : Int), .int .i64 (at' : Int), .string tx] (0, 0) _ rfl (by exact hh) Tryz.underlying101 rfl (by kernel_rfl)) rfl ?_
  have hl0 := HLT.out
  refine ⟨rfl, ((HF2.out.setNew (Nat.le_refl _) hl0 0 _).setNew (Nat.le_refl _) hl0 1 _).setNew (Nat.le_refl _) hl0 2 _, ?_⟩
  have hb9 : Below w.heap.size W2 (((W2.setCell ⟨w.heap.size, 0, none⟩ (.int .i64 (kd : Int))).setCell ⟨w.heap.size, 1, none⟩ (.int .i64 (at' : Int))).setCell ⟨w.heap.size, 2, none⟩ (.string tx)) := (((Below.refl _ _).setCell (p := ⟨w.heap.size, 0, none⟩) (Nat.le_refl _) _).setCell (p := ⟨w.heap.size, 1, none⟩) (Nat.le_refl _) _).setCell (p := ⟨w.heap.size, 2, none⟩) (Nat.le_refl _) _
  exact ⟨(hb9.block R hl0).trans HR2.out.h, HR2.out.le, HR2.out.small, HR2.out.ev.below (hb9.mono (Nat.le_of_lt hl0))⟩

end Go.Proofs.YthemehdcakimgaiGreatDoor
