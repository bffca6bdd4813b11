/- Package source: trees in memory; the reader reads numbers. Package source: pairs, brackets. Package source: the reader's functions that begin a level. -/
import Derived.Test.YthpkcageimhgaaaDoorSqAC
namespace Go.Proofs.YthpkcageimhgaaaDoor
open Go.RowKit

mutual
/-- an expression in memory: B holds of each of its blocks -/
def PTB (B : Nat → Prop) (w : World) : Tr → Value → Prop
  | .node k nm at' n kids, v => ∃ b a c, v = .pointer (some ⟨b, 0, none⟩) ∧ B b ∧ w.heap[b]? = some (.cells #[.int .i64 (k : Int), .string (bs nm), .int .i64 (at' : Int), .int .i64 (n : Int), .slice a kids.length c] 84 (0, 0)) ∧ PTBs B w a kids 0
def PTBs (B : Nat → Prop) (w : World) (a : Option Addr) : List Tr → Nat → Prop
  | [], _ => True
  | t :: r, i => (∃ g v, a = some ⟨g, 0, none⟩ ∧ B g ∧ w.cell? ⟨g, i, none⟩ = some v ∧ PTB B w t v) ∧ PTBs B w a r (i + 1)
end
mutual
theorem PTB.keep {B B' : Nat → Prop} {w w' : World} (hk : ∀ b, B b → b < w.heap.size → B' b ∧ w'.heap[b]? = w.heap[b]?) : ∀ (t : Tr) (v : Value), PTB B w t v → PTB B' w' t v
  | .node k nm at' n kids, v, h => by
    obtain ⟨b, a, c, h1, h2, h3, h4⟩ := h
    obtain ⟨k1, k2⟩ := hk b h2 (Array.getElem?_eq_some_iff.1 h3).1
    exact ⟨b, a, c, h1, k1, k2.trans h3, PTBs.keep hk a kids 0 h4⟩
theorem PTBs.keep {B B' : Nat → Prop} {w w' : World} (hk : ∀ b, B b → b < w.heap.size → B' b ∧ w'.heap[b]? = w.heap[b]?) (a : Option Addr) : ∀ (ts : List Tr) (i : Nat), PTBs B w a ts i → PTBs B' w' a ts i
  | [], _, _ => trivial
  | t :: r, i, h => by
    obtain ⟨⟨g, v, h1, h2, h3, h4⟩, h5⟩ := h
    have hl := World.block_lt_of_cell? _ _ h3
    obtain ⟨k1, k2⟩ := hk g h2 hl
    refine ⟨⟨g, v, h1, k1, ?_, PTB.keep hk t v h4⟩, PTBs.keep hk a r (i + 1) h5⟩
    unfold World.cell? at h3 ⊢
    rw [k2]
    exact h3
end
/-- .. its blocks lie from lo on -/
def PT (lo : Nat) (w : World) (t : Tr) (v : Value) : Prop := PTB (fun b => lo ≤ b) w t v
def PTs (lo : Nat) (w : World) (a : Option Addr) (ts : List Tr) (i : Nat) : Prop := PTBs (fun b => lo ≤ b) w a ts i
theorem PT.keep {lo : Nat} {w w' : World} (hk : ∀ b, lo ≤ b → b < w.heap.size → w'.heap[b]? = w.heap[b]?) (t : Tr) (v : Value) (h : PT lo w t v) : PT lo w' t v := PTB.keep (fun b h1 h2 => ⟨h1, hk b h1 h2⟩) t v h
theorem PT.fr {R lo : Nat} {w w' : World} {t : Tr} {v : Value} (h : PT lo w t v) (f : Fr R w w') (hlo : R < lo) : PT lo w' t v := PT.keep (fun _ h1 h2 => f.keep (by omega) h2) t v h
theorem PT.below {lo : Nat} {w w' : World} {t : Tr} {v : Value} (h : PT lo w t v) (f : Below w.heap.size w w') : PT lo w' t v := PT.keep (fun b _ h2 => f.block b h2) t v h
theorem PT.mono {lo lo' : Nat} {w : World} {t : Tr} {v : Value} (h : PT lo w t v) (hl : lo' ≤ lo) : PT lo' w t v := PTB.keep (fun _ h1 _ => ⟨Nat.le_trans hl h1, rfl⟩) t v h
/-- parts that lie side by side in a block -/
theorem PTBs_of {B : Nat → Prop} {w : World} {g : Nat} (hg : B g) : ∀ (ts : List Tr) (i : Nat), (∀ j, j < ts.length → ∃ v, w.cell? ⟨g, i + j, none⟩ = some v ∧ ∀ t, ts[j]? = some t → PTB B w t v) → PTBs B w (some ⟨g, 0, none⟩) ts i
  | [], _, _ => trivial
  | t :: r, i, h => by
    obtain ⟨v, h1, h2⟩ := h 0 (by simp)
    refine ⟨⟨g, v, rfl, hg, h1, h2 t rfl⟩, PTBs_of hg r (i + 1) fun j hj => ?_⟩
    obtain ⟨v, h1, h2⟩ := h (j + 1) (by simpa using hj)
    exact ⟨v, by rw [show i + 1 + j = i + (j + 1) by omega]; exact h1, fun t ht => h2 t ht⟩
def VX (lo : Nat) : World → Value → Tr → Prop := fun w v t => PT lo w t v

set_option maxRecDepth 100000 in
set_option maxHeartbeats 1000000 in
theorem numX (R : Nat) (T : ByteArray) (j l : Nat) (w : World) (hR : RdAt w R T j l) :
    Calls Tryd.prog 81 #[.pointer (some ⟨R, 0, none⟩)] w (Rx w R T l l (VX w.heap.size) (pNum (by' T) j)) := by
  have HT := hid (takeX R T j l 3 w hR)
  have hlt := hR.lt
  have HSM := hid hR.small
  have HJ := hid hR.le
  unfold pNum
  clear hR
  cases hp : pTake (by' T) 3 j with
  | out => exact absurd hp pTake_out
  | bad er at' =>
    rw [hp] at HT
    show Calls _ _ _ _ (Rx w R T l l (VX w.heap.size) (.bad er at'))
    clear hp
    go_enter Tryd.func81, Tryd.ntmps81
    go_wp2_with fail
    refine HT.out.mono ?_
    rintro e w1 ⟨h1, rfl, h2⟩
    exact ⟨rfl, h1, rfl, h2⟩
  | ok t a =>
    rw [hp] at HT
    show Calls _ _ _ _ (Rx w R T l l (VX w.heap.size) (if 9223372036854775807 < numV t.text then .bad 3 t.at' else .ok (.node 0 [] 0 (numV t.text) []) a))
    obtain ⟨e1, _, e3⟩ := pTake_ok hp
    have h3 := tok3 e3
    rw [← e1] at h3
    have htl : t.text.length ≤ 4000 := by
      have h1 := tok_at (by' T) j (by rw [by_len]; exact HJ.out)
      rw [by_len] at h1
      have h2 : (tok (by' T) j).nx = (tok (by' T) j).at' + (tok (by' T) j).text.length := rfl
      have := HSM.out
      rw [e1]
      omega
    have hat := atoi_num t.text h3.1 h3.2
    have hsz := bs_size t.text
    have hdt : (bs t.text).data.toList = t.text := by simp [bs]
    clear hp e1 e3 h3
    by_cases hg : 9223372036854775807 < numV t.text
    · rw [if_pos hg] at hat ⊢
      have HA := hid (fun ev W hv hev => Tryd.strconv_Atoi_range (bs t.text) (by omega) (by rw [hdt]; exact hat) ev W hv hev)
      rw [hdt] at HA
      clear hsz hdt hat hg
      have hne : ∀ (x : TypeId) (y : Value) (w : World), (binOp BinOp.neq 24 (.iface x y) .nilIface).run Tryd.prog w = .ok (.bool true) w := fun x y w => by kernel_rfl
      go_enter Tryd.func81, Tryd.ntmps81
      go_wp2_with fail
      refine HT.out.mono ?_
      rintro e w1 ⟨h1, v, rfl, rfl, h2⟩
      obtain ⟨ev, he1, he2⟩ := (h2.below ((Below.refl _ _).alloc (Nat.le_refl _) (.cells #[.int .i64 (t.kind : Int), .int .i64 (t.at' : Int), .string (bs t.text)] 66))).ev.2
      have HCA := hid (HA.out ev _ he1 he2)
      have H1 := hid (h1.alloc hlt (.cells #[.int .i64 (t.kind : Int), .int .i64 (t.at' : Int), .string (bs t.text)] 66))
      have H2 := hid (h2.below ((Below.refl _ _).alloc (Nat.le_refl _) (.cells #[.int .i64 (t.kind : Int), .int .i64 (t.at' : Int), .string (bs t.text)] 66)))
      clear h1 h2 he1 he2 HA
      unfold tokv
      go_wp2_with fail
      refine HCA.out.mono ?_
      rintro e w2 ⟨N, rfl, hN, hN2, hb2⟩
      have c1 : w2.cell? ⟨w1.heap.size, 1, none⟩ = some (.int .i64 (t.at' : Int)) := (hb2.cell (p := ⟨w1.heap.size, 1, none⟩) (by simp)).trans (by unfold World.cell?; rw [heap_alloc_new]; rfl)
      have H3 := hid (H1.out.more hb2 hlt)
      have H4 := hid (H2.out.below hb2)
      clear hN hN2 hb2 HCA H1 H2
      go_wp2_with fail
      exact ⟨rfl, H3.out, rfl, a, H4.out⟩
    · rw [if_neg hg] at hat ⊢
      have HA := hid (fun W => Tryd.strconv_Atoi_ok (bs t.text) (by omega) _ (by rw [hdt]; exact hat) W)
      clear hsz hdt hat
      have heq : ∀ (w : World), (binOp BinOp.neq 24 .nilIface .nilIface).run Tryd.prog w = .ok (.bool false) w := fun w => by kernel_rfl
      go_enter Tryd.func81, Tryd.ntmps81
      go_wp2_with fail
      refine HT.out.mono ?_
      rintro e w1 ⟨h1, v, rfl, rfl, h2⟩
      have HCA := hid (HA.out (w1.alloc (.cells #[.int .i64 (t.kind : Int), .int .i64 (t.at' : Int), .string (bs t.text)] 66)))
      have H1 := hid (h1.alloc hlt (.cells #[.int .i64 (t.kind : Int), .int .i64 (t.at' : Int), .string (bs t.text)] 66))
      have H2 := hid (h2.below ((Below.refl _ _).alloc (Nat.le_refl _) (.cells #[.int .i64 (t.kind : Int), .int .i64 (t.at' : Int), .string (bs t.text)] 66)))
      clear h1 h2 HA
      unfold tokv
      go_wp2_with fail
      have HCB := hid (HCA.out.mono (R' := fun e w' => e = .returned (.tuple #[.int .i64 (numV t.text : Int), .nilIface]) ∧ Below (w1.alloc (.cells #[.int .i64 (t.kind : Int), .int .i64 (t.at' : Int), .string (bs t.text)] 66)).heap.size (w1.alloc (.cells #[.int .i64 (t.kind : Int), .int .i64 (t.at' : Int), .string (bs t.text)] 66)) w') (fun e w' h => ⟨h.1, by
        rcases h.2 with rfl | ⟨q, rfl⟩
        · exact Below.refl _ _
        · exact Lib.bytesWorld_below _ _ _⟩))
      refine HCB.out.mono ?_
      rintro e w2 ⟨rfl, hb2⟩
      have H3 := hid (H1.out.more hb2 hlt)
      have H4 := hid (H2.out.below hb2)
      clear hb2 HCA HCB H1 H2
      go_wp2_with fail
      go_ret
      have hb5 : Below w2.heap.size w2 (w2.alloc (.cells #[.int .i64 0, .string ⟨#[]⟩, .int .i64 0, .int .i64 (numV t.text : Int), .slice none 0 0] 84)) := (Below.refl _ _).alloc (Nat.le_refl _) _
      refine ⟨H3.out.more hb5 hlt, _, rfl, ?_, H4.out.below hb5⟩
      refine ⟨w2.heap.size, none, 0, rfl, ?_, heap_alloc_new w2 _, trivial⟩
      have := H3.out.size
      omega

end Go.Proofs.YthpkcageimhgaaaDoor

namespace Go.Proofs.YthpkcageimhgaaaDoor
open Go.RowKit

section
variable (R : Nat) (T : ByteArray) (f : Nat)
def EC : Prop := ∀ a l w, RdAt w R T a l → l ≤ 64 → pExpr (by' T) f a l ≠ .out → Calls Tryd.prog 40 #[.pointer (some ⟨R, 0, none⟩)] w (Rx w R T l l (VX w.heap.size) (pExpr (by' T) f a l))
def SC : Prop := ∀ a l w, RdAt w R T a l → l ≤ 64 → pSum (by' T) f a l ≠ .out → Calls Tryd.prog 58 #[.pointer (some ⟨R, 0, none⟩)] w (Rx w R T l l (VX w.heap.size) (pSum (by' T) f a l))
def PC : Prop := ∀ a l w, RdAt w R T a l → l ≤ 64 → pProd (by' T) f a l ≠ .out → Calls Tryd.prog 65 #[.pointer (some ⟨R, 0, none⟩)] w (Rx w R T l l (VX w.heap.size) (pProd (by' T) f a l))
def XC : Prop := ∀ a l w, RdAt w R T a l → l ≤ 64 → pPart (by' T) f a l ≠ .out → Calls Tryd.prog 71 #[.pointer (some ⟨R, 0, none⟩)] w (Rx w R T l l (VX w.heap.size) (pPart (by' T) f a l))
end
theorem PT.form {lo : Nat} {w : World} {t : Tr} {v : Value} (h : PT lo w t v) : ∃ b, v = .pointer (some ⟨b, 0, none⟩) := by
  cases t with
  | node k nm at' n kids => obtain ⟨b, a, c, h1, _⟩ := h; exact ⟨b, h1⟩
theorem pEnter_ok {L : List UInt8} {k a l j : Nat} {u : Unit} (h : pEnter L k a l = .ok u j) : (tok L a).kind = k ∧ j = (tok L a).nx ∧ l ≠ 64 := by
  unfold pEnter at h
  cases hp : pTake L k a with
  | out => exact absurd hp pTake_out
  | bad er at' => rw [hp] at h; cases h
  | ok t b =>
    rw [hp] at h
    obtain ⟨e1, e2, e3⟩ := pTake_ok hp
    simp only [Res.bind] at h
    split at h
    · cases h
    · injection h with _ h
      exact ⟨e3, by rw [← h, e2], by assumption⟩
theorem pEnter_out {L : List UInt8} {k a l : Nat} : pEnter L k a l ≠ .out := by
  unfold pEnter
  cases hp : pTake L k a with
  | out => exact absurd hp pTake_out
  | bad er at' => intro h; cases h
  | ok t b =>
    simp only [Res.bind]
    split <;> (intro h; cases h)
theorem pName_out {L : List UInt8} {a : Nat} : pName L a ≠ .out := by
  unfold pName
  cases hp : pTake L 2 a with
  | out => exact absurd hp pTake_out
  | bad er at' => intro h; cases h
  | ok t b =>
    simp only [Res.bind]
    split <;> (intro h; cases h)
/-- a node over parts that lie side by side -/
theorem PT_new {lo k : Nat} (ts : List Tr) (vs : List Value) (w : World) (hlen : vs.length = ts.length) (hlo : lo ≤ w.heap.size) (h : ∀ (i : Nat) t v, ts[i]? = some t → vs[i]? = some v → PT lo w t v) (nm : List UInt8) (at' : Nat) :
    PT lo ((w.alloc (.cells vs.toArray 38)).alloc (.cells #[.int .i64 (k : Int), .string (bs nm), .int .i64 (at' : Int), .int .i64 0, .slice (some ⟨w.heap.size, 0, none⟩) ts.length ts.length] 84)) (.node k nm at' 0 ts) (.pointer (some ⟨w.heap.size + 1, 0, none⟩)) := by
  obtain ⟨V, hV⟩ : ∃ V, V = w.alloc (.cells vs.toArray 38) := ⟨_, rfl⟩
  obtain ⟨W, hW⟩ : ∃ W, W = V.alloc (.cells #[.int .i64 (k : Int), .string (bs nm), .int .i64 (at' : Int), .int .i64 0, .slice (some ⟨w.heap.size, 0, none⟩) ts.length ts.length] 84) := ⟨_, rfl⟩
  have b1 : Below w.heap.size w V := by rw [hV]; exact (Below.refl _ _).alloc (Nat.le_refl _) _
  have b2 : Below V.heap.size V W := by rw [hW]; exact (Below.refl _ _).alloc (Nat.le_refl _) _
  have hs : V.heap.size = w.heap.size + 1 := by rw [hV]; simp
  have n1 : V.heap[w.heap.size]? = some (.cells vs.toArray 38 (0, 0)) := by rw [hV]; exact heap_alloc_new w _
  have n2 : W.heap[w.heap.size + 1]? = some (.cells #[.int .i64 (k : Int), .string (bs nm), .int .i64 (at' : Int), .int .i64 0, .slice (some ⟨w.heap.size, 0, none⟩) ts.length ts.length] 84 (0, 0)) := by rw [hW, ← hs]; exact heap_alloc_new V _
  have n3 : W.heap[w.heap.size]? = some (.cells vs.toArray 38 (0, 0)) := (b2.block _ (by omega)).trans n1
  rw [← hV, ← hW]
  refine ⟨_, _, _, rfl, (show lo ≤ w.heap.size + 1 by omega), n2, PTBs_of (B := fun b => lo ≤ b) hlo ts 0 fun j hj => ?_⟩
  have hj2 : j < vs.length := by omega
  refine ⟨vs[j], by simp [World.cell?, n3, hj2], fun t ht => ((h j t _ ht (by simp [hj2])).below b1).below b2⟩

set_option maxRecDepth 100000 in
set_option maxHeartbeats 1000000 in
theorem pairX (lo F : Nat) (hF : ∀ args w, (callFunc F args).run Tryd.prog w = .ok (.enter F args) w) (R : Nat) (T : ByteArray) (j l kd : Nat) (x : Tr) (v : Value) (w : World) (rb : Res Tr) (hR : RdAt w R T j l) (hx : PT lo w x v) (hlo : R < lo) (hlo2 : lo ≤ w.heap.size) (hrb : rb ≠ .out)
    (hB : ∀ W, RdAt W R T (tok (by' T) j).nx l → Calls Tryd.prog F #[.pointer (some ⟨R, 0, none⟩)] W (Rx W R T l l (VX W.heap.size) rb)) :
    Calls Tryd.prog 59 #[.pointer (some ⟨R, 0, none⟩), .int .i64 (kd : Int), v, .func (.func F) #[.pointer (some ⟨R, 0, none⟩)] #[]] w (Rx w R T l l (VX lo) (rb.bind fun y a => .ok (.node kd [] 0 0 [x, y]) a)) := by
  have hmf : ∀ (fn : Go.Fn) (first cap : Array Value) (w : World), (Instr.makeFunc fn first cap).run Tryd.prog w = .ok (.func fn first cap) w := fun _ _ _ _ => rfl
  obtain ⟨b, rfl⟩ := hx.form
  have c1 : w.cell? ⟨R, 1, none⟩ = some (.int .i64 ((tok (by' T) j).kind : Int)) := by simp [World.cell?, hR.h]
  have HT := hid (take_yes R T j l (tok (by' T) j).kind w hR rfl)
  have HX := hid hx
  have HB := hid hB
  have hlt := hR.lt
  clear hR hx hB
  generalize (tok (by' T) j).nx = nx at *
  generalize tokv (tok (by' T) j) = tv at *
  generalize (tok (by' T) j).kind = kj at *
  obtain ⟨rr, hrr⟩ : ∃ rr : Res Tr, rr = rb.bind fun y a => .ok (.node kd [] 0 0 [x, y]) a := ⟨_, rfl⟩
  rw [← hrr]
  go_enter Tryd.func59, Tryd.ntmps59
  go_wp2_with fail
  refine HT.out.mono ?_
  rintro e w1 ⟨rfl, h1, h2⟩
  have H1 := hid h1
  have HBC := hid (HB.out w1 h2)
  have HX1 := hid (HX.out.fr h1 hlo)
  clear h1 h2 HT HB HX c1
  go_wp2_with fail
  refine HBC.out.mono ?_
  intro e w2 he
  cases rb with
  | out => exact absurd rfl hrb
  | bad er at' =>
    obtain ⟨h3, rfl, h4⟩ := he
    subst hrr
    exact ⟨rfl, H1.out.trans h3, rfl, h4⟩
  | ok y a =>
    obtain ⟨h3, vy, rfl, hy, h4⟩ := he
    obtain ⟨b2, rfl⟩ := hy.form
    have H3 := hid (H1.out.trans h3)
    have HX2 := hid (HX1.out.fr h3 hlo)
    have HY := hid (hy.mono (by have := H1.out.size; omega) : PT lo w2 y _)
    have H4 := hid h4
    clear h3 h4 hy H1 HX1 HBC
    go_wp2_with fail
    go_ret
    subst hrr
    have hs := H3.out.size
    have hb5 : Below w2.heap.size w2 ((w2.alloc (.cells #[.pointer (some ⟨b, 0, none⟩), .pointer (some ⟨b2, 0, none⟩)] 38)).alloc (.cells #[.int .i64 (kd : Int), .string (bs []), .int .i64 ((0 : Nat) : Int), .int .i64 0, .slice (some ⟨w2.heap.size, 0, none⟩) 2 2] 84)) := ((Below.refl _ _).alloc (Nat.le_refl _) _).alloc (by simp) _
    have hpt := PT_new (k := kd) (lo := lo) [x, y] [.pointer (some ⟨b, 0, none⟩), .pointer (some ⟨b2, 0, none⟩)] w2 (by simp) (by omega) (fun i t v ht hv => by
      match i, ht, hv with
      | 0, ht, hv => simp at ht hv; subst ht hv; exact HX2.out
      | 1, ht, hv => simp at ht hv; subst ht hv; exact HY.out
      | n + 2, ht, hv => simp at ht) [] 0
    exact ⟨H3.out.more hb5 hlt, _, rfl, hpt, H4.out.below hb5⟩

set_option maxRecDepth 100000 in
set_option maxHeartbeats 1000000 in
theorem inBracketsX (R : Nat) (T : ByteArray) (f j l : Nat) (w : World) (hE : EC R T f) (hR : RdAt w R T j l) (hl : l ≤ 64) (r : Res Tr) (hr : r = (pEnter (by' T) 10 j l).bind fun _ a1 => (pExpr (by' T) f a1 (l + 1)).bind fun x a2 => (pTake (by' T) 11 a2).bind fun _ a3 => .ok x a3) (hro : r ≠ .out) :
    Calls Tryd.prog 79 #[.pointer (some ⟨R, 0, none⟩)] w (Rx w R T l l (VX w.heap.size) r) := by
  have HT := hid (enterX R T j l 10 w hR hl)
  have hlt := hR.lt
  have HE := hid hE
  have HR := hid hr
  have HRO := hid hro
  clear hR hr hro hE
  go_enter_defers Tryd.func79, Tryd.ntmps79
  go_wp2_with fail
  refine HT.out.mono ?_
  intro e w1 he
  cases hp : pEnter (by' T) 10 j l with
  | out => exact absurd hp pEnter_out
  | bad er at' =>
    rw [hp] at he
    obtain ⟨h1, rfl, h2⟩ := he
    have hr2 := HR.out
    rw [hp] at hr2
    subst hr2
    exact ⟨h1, rfl, h2⟩
  | ok u a1 =>
    rw [hp] at he
    obtain ⟨h1, v, rfl, rfl, h2⟩ := he
    have H1 := hid h1
    have H2 := hid h2
    have HP := hid hp
    clear h1 h2 hp HT
    go_wp2_with fail
    have hl64 : l + 1 ≤ 64 := by have := (pEnter_ok HP.out).2.2; omega
    have hr2 := HR.out
    rw [HP.out] at hr2
    simp only [Res.bind] at hr2
    have hne : pExpr (by' T) f a1 (l + 1) ≠ .out := fun e => by rw [e] at hr2; exact HRO.out hr2
    refine (HE.out a1 (l + 1) w1 H2.out hl64 hne).mono ?_
    intro e w2 he
    cases hx : pExpr (by' T) f a1 (l + 1) with
    | out => exact absurd hx hne
    | bad er at' =>
      rw [hx] at he hr2
      obtain ⟨h3, rfl, j2, h4⟩ := he
      (try simp only at hr2)
      subst hr2
      refine leave_pnc h4 hl ?_
      exact ⟨(H1.out.trans h3).set 4 _, rfl, j2, h4.level l⟩
    | ok x a2 =>
      rw [hx] at he hr2
      obtain ⟨h3, v, rfl, hv, h4⟩ := he
      obtain ⟨b, rfl⟩ := hv.form
      have HTT := hid (takeX R T a2 (l + 1) 11 w2 h4)
      have H3 := hid (H1.out.trans h3)
      have HV := hid (hv.mono H1.out.size : PT w.heap.size w2 x _)
      have H4 := hid h4
      have HR2 := hid hr2
      clear h3 h4 hv hne hx hr2 H1 H2
      go_wp2_with fail
      refine HTT.out.mono ?_
      intro e w3 he
      have hr2 := HR2.out
      (try simp only at hr2)
      cases ht : pTake (by' T) 11 a2 with
      | out => exact absurd ht pTake_out
      | bad er at' =>
        rw [ht] at he hr2
        obtain ⟨h5, rfl, j3, h6⟩ := he
        (try simp only at hr2)
        subst hr2
        refine leave_pnc h6 hl ?_
        exact ⟨(H3.out.trans h5).set 4 _, rfl, j3, h6.level l⟩
      | ok t a3 =>
        rw [ht] at he hr2
        obtain ⟨h5, v, rfl, rfl, h6⟩ := he
        (try simp only at hr2)
        have H5 := hid (H3.out.trans h5)
        have H6 := hid h6
        have HV2 := hid (HV.out.fr h5 hlt)
        have HR3 := hid hr2
        clear h5 h6 hr2 ht
        go_wp2_with fail
        have hr3 := HR3.out
        subst hr3
        refine leave_ret H6.out hl (results_tmp rfl _ _ _) ?_
        exact ⟨H5.out.set 4 _, _, rfl, HV2.out.fr ((Fr.refl R w3).set 4 _) hlt, H6.out.level l⟩

end Go.Proofs.YthpkcageimhgaaaDoor

namespace Go.Proofs.YthpkcageimhgaaaDoor
end Go.Proofs.YthpkcageimhgaaaDoor
