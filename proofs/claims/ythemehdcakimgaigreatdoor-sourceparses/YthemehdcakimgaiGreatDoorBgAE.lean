/- Package source: pairs, brackets. Package source: the reader's functions that begin a level. Package source: a sign ahead of a part. Package source: need. Package source: if. -/
import Derived.Test.YthemehdcakimgaiGreatDoorBgAD
namespace Go.Proofs.YthemehdcakimgaiGreatDoor
open Go.RowKit

section
variable (R : Nat) (T : ByteArray) (f : Nat)
def EC : Prop := ∀ a l w, RdAt w R T a l → l ≤ 64 → pExpr (by' T) f a l ≠ .out → Calls Tryz.prog 75 #[.pointer (some ⟨R, 0, none⟩)] w (Rx w R T l l (VX w.heap.size) (pExpr (by' T) f a l))
def SC : Prop := ∀ a l w, RdAt w R T a l → l ≤ 64 → pSum (by' T) f a l ≠ .out → Calls Tryz.prog 97 #[.pointer (some ⟨R, 0, none⟩)] w (Rx w R T l l (VX w.heap.size) (pSum (by' T) f a l))
def PC : Prop := ∀ a l w, RdAt w R T a l → l ≤ 64 → pProd (by' T) f a l ≠ .out → Calls Tryz.prog 105 #[.pointer (some ⟨R, 0, none⟩)] w (Rx w R T l l (VX w.heap.size) (pProd (by' T) f a l))
def XC : Prop := ∀ a l w, RdAt w R T a l → l ≤ 64 → pPart (by' T) f a l ≠ .out → Calls Tryz.prog 113 #[.pointer (some ⟨R, 0, none⟩)] w (Rx w R T l l (VX w.heap.size) (pPart (by' T) f a l))
end
theorem PT.form {lo : Nat} {w : World} {t : Tr} {v : Value} (h : PT lo w t v) : ∃ b, v = .pointer (some ⟨b, 0, none⟩) := by
  cases t with
  | node k nm at' n kids => obtain ⟨b, a, c, h1, _⟩ := h; exact ⟨b, h1⟩
theorem pEnter_ok {L : List UInt8} {k a l j : Nat} {u : Unit} (h : pEnter L k a l = .ok u j) : (tok L a).kind = k ∧ j = (tok L a).nx ∧ l ≠ 64 := by
  unfold pEnter at h
  cases hp : pTake L k a with
  | out => exact absurd hp pTake_out
  | bad er at' => rw [hp] at h; cases h
  | ok t b =>
    rw [hp] at h
    obtain ⟨e1, e2, e3⟩ := pTake_ok hp
    simp only [Res.bind] at h
    split at h
    · cases h
    · injection h with _ h
      exact ⟨e3, by rw [← h, e2], by assumption⟩
theorem pEnter_out {L : List UInt8} {k a l : Nat} : pEnter L k a l ≠ .out := by
  unfold pEnter
  cases hp : pTake L k a with
  | out => exact absurd hp pTake_out
  | bad er at' => intro h; cases h
  | ok t b =>
    simp only [Res.bind]
    split <;> (intro h; cases h)
theorem pName_out {L : List UInt8} {a : Nat} : pName L a ≠ .out := by
  unfold pName
  cases hp : pTake L 2 a with
  | out => exact absurd hp pTake_out
  | bad er at' => intro h; cases h
  | ok t b =>
    simp only [Res.bind]
    split <;> (intro h; cases h)
/-- a node over parts that lie side by side -/
theorem PT_new {lo k : Nat} (ts : List Tr) (vs : List Value) (w : World) (hlen : vs.length = ts.length) (hlo : lo ≤ w.heap.size) (h : ∀ (i : Nat) t v, ts[i]? = some t → vs[i]? = some v → PT lo w t v) (nm : List UInt8) (at' : Nat) :
    PT lo ((w.alloc (.cells vs.toArray 52)).alloc (.cells #[.int .i64 (k : Int), .string (bs nm), .int .i64 (at' : Int), .int .i64 0, .slice (some ⟨w.heap.size, 0, none⟩) ts.length ts.length] 129)) (.node k nm at' 0 ts) (.pointer (some ⟨w.heap.size + 1, 0, none⟩)) := by
  obtain ⟨V, hV⟩ : ∃ V, V = w.alloc (.cells vs.toArray 52) := ⟨_, rfl⟩
  obtain ⟨W, hW⟩ : ∃ W, W = V.alloc (.cells #[.int .i64 (k : Int), .string (bs nm), .int .i64 (at' : Int), .int .i64 0, .slice (some ⟨w.heap.size, 0, none⟩) ts.length ts.length] 129) := ⟨_, rfl⟩
  have b1 : Below w.heap.size w V := by rw [hV]; exact (Below.refl _ _).alloc (Nat.le_refl _) _
  have b2 : Below V.heap.size V W := by rw [hW]; exact (Below.refl _ _).alloc (Nat.le_refl _) _
  have hs : V.heap.size = w.heap.size + 1 := by rw [hV]; simp
  have n1 : V.heap[w.heap.size]? = some (.cells vs.toArray 52 (0, 0)) := by rw [hV]; exact heap_alloc_new w _
  have n2 : W.heap[w.heap.size + 1]? = some (.cells #[.int .i64 (k : Int), .string (bs nm), .int .i64 (at' : Int), .int .i64 0, .slice (some ⟨w.heap.size, 0, none⟩) ts.length ts.length] 129 (0, 0)) := by rw [hW, ← hs]; exact heap_alloc_new V _
  have n3 : W.heap[w.heap.size]? = some (.cells vs.toArray 52 (0, 0)) := (b2.block _ (by omega)).trans n1
  rw [← hV, ← hW]
  refine ⟨_, _, _, rfl, (show lo ≤ w.heap.size + 1 by omega), n2, PTBs_of (B := fun b => lo ≤ b) hlo ts 0 fun j hj => ?_⟩
  have hj2 : j < vs.length := by omega
  refine ⟨vs[j], by simp [World.cell?, n3, hj2], fun t ht => ((h j t _ ht (by simp [hj2])).below b1).below b2⟩

set_option maxRecDepth 100000 in
set_option maxHeartbeats 1000000 in
theorem pairX (lo F : Nat) (hF : ∀ args w, (callFunc F args).run Tryz.prog w = .ok (.enter F args) w) (R : Nat) (T : ByteArray) (j l kd : Nat) (x : Tr) (v : Value) (w : World) (rb : Res Tr) (hR : RdAt w R T j l) (hx : PT lo w x v) (hlo : R < lo) (hlo2 : lo ≤ w.heap.size) (hrb : rb ≠ .out)
    (hB : ∀ W, RdAt W R T (tok (by' T) j).nx l → Calls Tryz.prog F #[.pointer (some ⟨R, 0, none⟩)] W (Rx W R T l l (VX W.heap.size) rb)) :
    Calls Tryz.prog 98 #[.pointer (some ⟨R, 0, none⟩), .int .i64 (kd : Int), v, .func (.func F) #[.pointer (some ⟨R, 0, none⟩)] #[]] w (Rx w R T l l (VX lo) (rb.bind fun y a => .ok (.node kd [] 0 0 [x, y]) a)) := by
  have hmf : ∀ (fn : Go.Fn) (first cap : Array Value) (w : World), (Instr.makeFunc fn first cap).run Tryz.prog w = .ok (.func fn first cap) w := fun _ _ _ _ => rfl
  obtain ⟨b, rfl⟩ := hx.form
  have c1 : w.cell? ⟨R, 1, none⟩ = some (.int .i64 ((tok (by' T) j).kind : Int)) := by simp [World.cell?, hR.h]
  have HT := hid (take_yes R T j l (tok (by' T) j).kind w hR rfl)
  have HX := hid hx
  have HB := hid hB
  have hlt := hR.lt
  clear hR hx hB
  generalize (tok (by' T) j).nx = nx at *
  generalize tokv (tok (by' T) j) = tv at *
  generalize (tok (by' T) j).kind = kj at *
  obtain ⟨rr, hrr⟩ : ∃ rr : Res Tr, rr = rb.bind fun y a => .ok (.node kd [] 0 0 [x, y]) a := ⟨_, rfl⟩
  rw [← hrr]
  go_enter Tryz.func98, Tryz.ntmps98
  go_wp2_with fail
  refine HT.out.mono ?_
  rintro e w1 ⟨rfl, h1, h2⟩
  have H1 := hid h1
  have HBC := hid (HB.out w1 h2)
  have HX1 := hid (HX.out.fr h1 hlo)
  clear h1 h2 HT HB HX c1
  go_wp2_with fail
  refine HBC.out.mono ?_
  intro e w2 he
  cases rb with
  | out => exact absurd rfl hrb
  | bad er at' =>
    obtain ⟨h3, rfl, h4⟩ := he
    subst hrr
    exact ⟨rfl, H1.out.trans h3, rfl, h4⟩
  | ok y a =>
    obtain ⟨h3, vy, rfl, hy, h4⟩ := he
    obtain ⟨b2, rfl⟩ := hy.form
    have H3 := hid (H1.out.trans h3)
    have HX2 := hid (HX1.out.fr h3 hlo)
    have HY := hid (hy.mono (by have := H1.out.size; omega) : PT lo w2 y _)
    have H4 := hid h4
    clear h3 h4 hy H1 HX1 HBC
    go_wp2_with fail
    go_ret
    subst hrr
    have hs := H3.out.size
    have hb5 : Below w2.heap.size w2 ((w2.alloc (.cells #[.pointer (some ⟨b, 0, none⟩), .pointer (some ⟨b2, 0, none⟩)] 52)).alloc (.cells #[.int .i64 (kd : Int), .string (bs []), .int .i64 ((0 : Nat) : Int), .int .i64 0, .slice (some ⟨w2.heap.size, 0, none⟩) 2 2] 129)) := ((Below.refl _ _).alloc (Nat.le_refl _) _).alloc (by simp) _
    have hpt := PT_new (k := kd) (lo := lo) [x, y] [.pointer (some ⟨b, 0, none⟩), .pointer (some ⟨b2, 0, none⟩)] w2 (by simp) (by omega) (fun i t v ht hv => by
      match i, ht, hv with
      | 0, ht, hv => simp at ht hv; subst ht hv; exact HX2.out
      | 1, ht, hv => simp at ht hv; subst ht hv; exact HY.out
      | n + 2, ht, hv => simp at ht) [] 0
    exact ⟨H3.out.more hb5 hlt, _, rfl, hpt, H4.out.below hb5⟩

set_option maxRecDepth 100000 in
set_option maxHeartbeats 1000000 in
theorem inBracketsX (R : Nat) (T : ByteArray) (f j l : Nat) (w : World) (hE : EC R T f) (hR : RdAt w R T j l) (hl : l ≤ 64) (r : Res Tr) (hr : r = (pEnter (by' T) 10 j l).bind fun _ a1 => (pExpr (by' T) f a1 (l + 1)).bind fun x a2 => (pTake (by' T) 11 a2).bind fun _ a3 => .ok x a3) (hro : r ≠ .out) :
    Calls Tryz.prog 121 #[.pointer (some ⟨R, 0, none⟩)] w (Rx w R T l l (VX w.heap.size) r) := by
  have HT := hid (enterX R T j l 10 w hR hl)
  have hlt := hR.lt
  have HE := hid hE
  have HR := hid hr
  have HRO := hid hro
  clear hR hr hro hE
  go_enter_defers Tryz.func121, Tryz.ntmps121
  go_wp2_with fail
  refine HT.out.mono ?_
  intro e w1 he
  cases hp : pEnter (by' T) 10 j l with
  | out => exact absurd hp pEnter_out
  | bad er at' =>
    rw [hp] at he
    obtain ⟨h1, rfl, h2⟩ := he
    have hr2 := HR.out
    rw [hp] at hr2
    subst hr2
    exact ⟨h1, rfl, h2⟩
  | ok u a1 =>
    rw [hp] at he
    obtain ⟨h1, v, rfl, rfl, h2⟩ := he
    have H1 := hid h1
    have H2 := hid h2
    have HP := hid hp
    clear h1 h2 hp HT
    go_wp2_with fail
    have hl64 : l + 1 ≤ 64 := by have := (pEnter_ok HP.out).2.2; omega
    have hr2 := HR.out
    rw [HP.out] at hr2
    simp only [Res.bind] at hr2
    have hne : pExpr (by' T) f a1 (l + 1) ≠ .out := fun e => by rw [e] at hr2; exact HRO.out hr2
    refine (HE.out a1 (l + 1) w1 H2.out hl64 hne).mono ?_
    intro e w2 he
    cases hx : pExpr (by' T) f a1 (l + 1) with
    | out => exact absurd hx hne
    | bad er at' =>
      rw [hx] at he hr2
      obtain ⟨h3, rfl, j2, h4⟩ := he
      (try simp only at hr2)
      subst hr2
      refine leave_pnc h4 hl ?_
      exact ⟨(H1.out.trans h3).set 4 _, rfl, j2, h4.level l⟩
    | ok x a2 =>
      rw [hx] at he hr2
      obtain ⟨h3, v, rfl, hv, h4⟩ := he
      obtain ⟨b, rfl⟩ := hv.form
      have HTT := hid (takeX R T a2 (l + 1) 11 w2 h4)
      have H3 := hid (H1.out.trans h3)
      have HV := hid (hv.mono H1.out.size : PT w.heap.size w2 x _)
      have H4 := hid h4
      have HR2 := hid hr2
      clear h3 h4 hv hne hx hr2 H1 H2
      go_wp2_with fail
      refine HTT.out.mono ?_
      intro e w3 he
      have hr2 := HR2.out
      (try simp only at hr2)
      cases ht : pTake (by' T) 11 a2 with
      | out => exact absurd ht pTake_out
      | bad er at' =>
        rw [ht] at he hr2
        obtain ⟨h5, rfl, j3, h6⟩ := he
        (try simp only at hr2)
        subst hr2
        refine leave_pnc h6 hl ?_
        exact ⟨(H3.out.trans h5).set 4 _, rfl, j3, h6.level l⟩
      | ok t a3 =>
        rw [ht] at he hr2
        obtain ⟨h5, v, rfl, rfl, h6⟩ := he
        (try simp only at hr2)
        have H5 := hid (H3.out.trans h5)
        have H6 := hid h6
        have HV2 := hid (HV.out.fr h5 hlt)
        have HR3 := hid hr2
        clear h5 h6 hr2 ht
        go_wp2_with fail
        have hr3 := HR3.out
        subst hr3
        refine leave_ret H6.out hl (results_tmp rfl _ _ _) ?_
        exact ⟨H5.out.set 4 _, _, rfl, HV2.out.fr ((Fr.refl R w3).set 4 _) hlt, H6.out.level l⟩

end Go.Proofs.YthemehdcakimgaiGreatDoor

namespace Go.Proofs.YthemehdcakimgaiGreatDoor
end Go.Proofs.YthemehdcakimgaiGreatDoor

namespace Go.Proofs.YthemehdcakimgaiGreatDoor
open Go.RowKit

set_option maxRecDepth 100000 in
set_option maxHeartbeats 2000000 in
theorem minusX (R : Nat) (T : ByteArray) (f j l : Nat) (w : World) (hX : XC R T f) (hR : RdAt w R T j l) (hl : l ≤ 64) (r : Res Tr) (hr : r = (pEnter (by' T) 17 j l).bind fun _ a0 => (pPart (by' T) f a0 (l + 1)).bind fun x a1 => .ok (.node 3 [] 0 0 [x]) a1) (hro : r ≠ .out) :
    Calls Tryz.prog 122 #[.pointer (some ⟨R, 0, none⟩)] w (Rx w R T l l (VX w.heap.size) r) := by
  have HT := hid (enterX R T j l 17 w hR hl)
  have hlt := hR.lt
  have HX := hid hX
  have HR := hid hr
  have HRO := hid hro
  clear hR hr hro hX
  go_enter_defers Tryz.func122, Tryz.ntmps122
  go_wp2_with fail
  refine HT.out.mono ?_
  intro e w0 he
  cases hp : pEnter (by' T) 17 j l with
  | out => exact absurd hp pEnter_out
  | bad er at' =>
    rw [hp] at he
    obtain ⟨h1, rfl, h2⟩ := he
    have hr2 := HR.out
    rw [hp] at hr2
    subst hr2
    exact ⟨h1, rfl, h2⟩
  | ok u a0 =>
    rw [hp] at he
    obtain ⟨h1, v, rfl, rfl, h2⟩ := he
    have hl64 : l + 1 ≤ 64 := by have := (pEnter_ok hp).2.2; omega
    have hr2 := HR.out
    rw [hp] at hr2
    simp only [Res.bind] at hr2
    have HF0 := hid h1
    have HD0 := hid h2
    have HR0 := hid hr2
    clear h1 h2 hp HT HR hr2
    have hr2 := HR0.out
    have hne : pPart (by' T) f a0 (l + 1) ≠ .out := fun e => by rw [e] at hr2; exact HRO.out hr2
    have HC := hid (HX.out a0 (l + 1) w0 HD0.out hl64 hne)
    clear hr2
    go_wp2_with fail
    refine HC.out.mono ?_
    intro e w1 he
    have hr2 := HR0.out
    cases ht : pPart (by' T) f a0 (l + 1) with
    | out => exact absurd ht hne
    | bad er at' =>
      rw [ht] at he hr2
      obtain ⟨h5, rfl, j3, h6⟩ := he
      (try simp only at hr2)
      subst hr2
      refine leave_pnc h6 hl ?_
      exact ⟨(HF0.out.trans h5).set 4 _, rfl, j3, h6.level l⟩
    | ok x a1 =>
      rw [ht] at he hr2
      obtain ⟨h5, v, rfl, hv, h6⟩ := he
      obtain ⟨qx, rfl⟩ := hv.form
      (try simp only at hr2)
      have HF1 := hid (HF0.out.trans h5)
      have HD1 := hid h6
      have HR1 := hid hr2
      have HVx := hid (hv.mono HF0.out.size : PT w.heap.size w1 x _)
      clear hv HC hne
      clear h5 h6 hr2 ht HF0 HD0 HR0
      go_wp2_with fail
      have hr3 := HR1.out
      subst hr3
      have hs := HF1.out.size
      have hb5 : Below w1.heap.size w1 ((w1.alloc (.cells #[.pointer (some ⟨qx, 0, none⟩)] 52)).alloc (.cells #[.int .i64 3, .string ⟨#[]⟩, .int .i64 0, .int .i64 0, .slice (some ⟨w1.heap.size, 0, none⟩) 1 1] 129)) := ((Below.refl _ _).alloc (Nat.le_refl _) _).alloc (by simp) _
      refine leave_ret (HD1.out.below hb5) hl (results_tmp rfl _ _ _) ?_
      have hpt := PT_new (k := 3) (lo := w.heap.size) [x] [.pointer (some ⟨qx, 0, none⟩)] w1 (by simp) (by omega) (fun i t v ht hv => ?_) [] 0
      · exact ⟨(HF1.out.more hb5 hlt).set 4 _, _, rfl, hpt.fr ((Fr.refl R _).set 4 _) hlt, (HD1.out.below hb5).level l⟩
      · match i, ht, hv with
        | 0, ht, hv => simp at ht hv; subst ht hv; exact HVx.out
        | n + 1, ht, hv => simp at ht

end Go.Proofs.YthemehdcakimgaiGreatDoor

namespace Go.Proofs.YthemehdcakimgaiGreatDoor
open Go.RowKit

set_option maxRecDepth 100000 in
set_option maxHeartbeats 2000000 in
theorem needX (R : Nat) (T : ByteArray) (f j l : Nat) (w : World) (hE : EC R T f) (hS : SC R T f) (hR : RdAt w R T j l) (hl : l ≤ 64) (r : Res Tr) (hr : r = (pEnter (by' T) 6 j l).bind fun _ a0 => (pSum (by' T) f a0 (l + 1)).bind fun x a1 => (pTake (by' T) 15 a1).bind fun _ a2 => (pSum (by' T) f a2 (l + 1)).bind fun y a3 => (pTake (by' T) 13 a3).bind fun _ a4 => (pExpr (by' T) f a4 (l + 1)).bind fun z a5 => .ok (.node 10 [] 0 0 [x, y, z]) a5) (hro : r ≠ .out) :
    Calls Tryz.prog 95 #[.pointer (some ⟨R, 0, none⟩)] w (Rx w R T l l (VX w.heap.size) r) := by
  have HT := hid (enterX R T j l 6 w hR hl)
  have hlt := hR.lt
  have HE := hid hE
  have HS := hid hS
  have HR := hid hr
  have HRO := hid hro
  clear hR hr hro hE hS
  go_enter_defers Tryz.func95, Tryz.ntmps95
  go_wp2_with fail
  refine HT.out.mono ?_
  intro e w0 he
  cases hp : pEnter (by' T) 6 j l with
  | out => exact absurd hp pEnter_out
  | bad er at' =>
    rw [hp] at he
    obtain ⟨h1, rfl, h2⟩ := he
    have hr2 := HR.out
    rw [hp] at hr2
    subst hr2
    exact ⟨h1, rfl, h2⟩
  | ok u a0 =>
    rw [hp] at he
    obtain ⟨h1, v, rfl, rfl, h2⟩ := he
    have hl64 : l + 1 ≤ 64 := by have := (pEnter_ok hp).2.2; omega
    have hr2 := HR.out
    rw [hp] at hr2
    simp only [Res.bind] at hr2
    have HF0 := hid h1
    have HD0 := hid h2
    have HR0 := hid hr2
    clear h1 h2 hp HT HR hr2
    have hr2 := HR0.out
    have hne : pSum (by' T) f a0 (l + 1) ≠ .out := fun e => by rw [e] at hr2; exact HRO.out hr2
    have HC := hid (HS.out a0 (l + 1) w0 HD0.out hl64 hne)
    clear hr2
    go_wp2_with fail
    refine HC.out.mono ?_
    intro e w1 he
    have hr2 := HR0.out
    cases ht : pSum (by' T) f a0 (l + 1) with
    | out => exact absurd ht hne
    | bad er at' =>
      rw [ht] at he hr2
      obtain ⟨h5, rfl, j3, h6⟩ := he
      (try simp only at hr2)
      subst hr2
      refine leave_pnc h6 hl ?_
      exact ⟨(HF0.out.trans h5).set 4 _, rfl, j3, h6.level l⟩
    | ok x a1 =>
      rw [ht] at he hr2
      obtain ⟨h5, v, rfl, hv, h6⟩ := he
      obtain ⟨qx, rfl⟩ := hv.form
      (try simp only at hr2)
      have HF1 := hid (HF0.out.trans h5)
      have HD1 := hid h6
      have HR1 := hid hr2
      have HVx := hid (hv.mono HF0.out.size : PT w.heap.size w1 x _)
      clear hv HC hne
      clear h5 h6 hr2 ht HF0 HD0 HR0
      have HT := hid (takeX R T a1 (l + 1) 15 w1 HD1.out)
      go_wp2_with fail
      refine HT.out.mono ?_
      intro e w2 he
      have hr2 := HR1.out
      cases ht : pTake (by' T) 15 a1 with
      | out => exact absurd ht pTake_out
      | bad er at' =>
        rw [ht] at he hr2
        obtain ⟨h5, rfl, j3, h6⟩ := he
        (try simp only at hr2)
        subst hr2
        refine leave_pnc h6 hl ?_
        exact ⟨(HF1.out.trans h5).set 4 _, rfl, j3, h6.level l⟩
      | ok t2 a2 =>
        rw [ht] at he hr2
        obtain ⟨h5, v, rfl, rfl, h6⟩ := he
        (try simp only at hr2)
        have HF2 := hid (HF1.out.trans h5)
        have HD2 := hid h6
        have HR2 := hid hr2
        replace HVx := hid (HVx.out.fr h5 hlt)
        clear HT
        clear h5 h6 hr2 ht HF1 HD1 HR1
        have hr2 := HR2.out
        have hne : pSum (by' T) f a2 (l + 1) ≠ .out := fun e => by rw [e] at hr2; exact HRO.out hr2
        have HC := hid (HS.out a2 (l + 1) w2 HD2.out hl64 hne)
        clear hr2
        go_wp2_with fail
        refine HC.out.mono ?_
        intro e w3 he
        have hr2 := HR2.out
        cases ht : pSum (by' T) f a2 (l + 1) with
        | out => exact absurd ht hne
        | bad er at' =>
          rw [ht] at he hr2
          obtain ⟨h5, rfl, j3, h6⟩ := he
          (try simp only at hr2)
          subst hr2
          refine leave_pnc h6 hl ?_
          exact ⟨(HF2.out.trans h5).set 4 _, rfl, j3, h6.level l⟩
        | ok y a3 =>
          rw [ht] at he hr2
          obtain ⟨h5, v, rfl, hv, h6⟩ := he
          obtain ⟨qy, rfl⟩ := hv.form
          (try simp only at hr2)
          have HF3 := hid (HF2.out.trans h5)
          have HD3 := hid h6
          have HR3 := hid hr2
          replace HVx := hid (HVx.out.fr h5 hlt)
          have HVy := hid (hv.mono HF2.out.size : PT w.heap.size w3 y _)
          clear hv HC hne
          clear h5 h6 hr2 ht HF2 HD2 HR2
          have HT := hid (takeX R T a3 (l + 1) 13 w3 HD3.out)
          go_wp2_with fail
          refine HT.out.mono ?_
          intro e w4 he
          have hr2 := HR3.out
          cases ht : pTake (by' T) 13 a3 with
          | out => exact absurd ht pTake_out
          | bad er at' =>
            rw [ht] at he hr2
            obtain ⟨h5, rfl, j3, h6⟩ := he
            (try simp only at hr2)
            subst hr2
            refine leave_pnc h6 hl ?_
            exact ⟨(HF3.out.trans h5).set 4 _, rfl, j3, h6.level l⟩
          | ok t4 a4 =>
            rw [ht] at he hr2
            obtain ⟨h5, v, rfl, rfl, h6⟩ := he
            (try simp only at hr2)
            have HF4 := hid (HF3.out.trans h5)
            have HD4 := hid h6
            have HR4 := hid hr2
            replace HVx := hid (HVx.out.fr h5 hlt)
            replace HVy := hid (HVy.out.fr h5 hlt)
            clear HT
            clear h5 h6 hr2 ht HF3 HD3 HR3
            have hr2 := HR4.out
            have hne : pExpr (by' T) f a4 (l + 1) ≠ .out := fun e => by rw [e] at hr2; exact HRO.out hr2
            have HC := hid (HE.out a4 (l + 1) w4 HD4.out hl64 hne)
            clear hr2
            go_wp2_with fail
            refine HC.out.mono ?_
            intro e w5 he
            have hr2 := HR4.out
            cases ht : pExpr (by' T) f a4 (l + 1) with
            | out => exact absurd ht hne
            | bad er at' =>
              rw [ht] at he hr2
              obtain ⟨h5, rfl, j3, h6⟩ := he
              (try simp only at hr2)
              subst hr2
              refine leave_pnc h6 hl ?_
              exact ⟨(HF4.out.trans h5).set 4 _, rfl, j3, h6.level l⟩
            | ok z a5 =>
              rw [ht] at he hr2
              obtain ⟨h5, v, rfl, hv, h6⟩ := he
              obtain ⟨qz, rfl⟩ := hv.form
              (try simp only at hr2)
              have HF5 := hid (HF4.out.trans h5)
              have HD5 := hid h6
              have HR5 := hid hr2
              replace HVx := hid (HVx.out.fr h5 hlt)
              replace HVy := hid (HVy.out.fr h5 hlt)
              have HVz := hid (hv.mono HF4.out.size : PT w.heap.size w5 z _)
              clear hv HC hne
              clear h5 h6 hr2 ht HF4 HD4 HR4
              go_wp2_with fail
              have hr3 := HR5.out
              subst hr3
              have hs := HF5.out.size
              have hb5 : Below w5.heap.size w5 ((w5.alloc (.cells #[.pointer (some ⟨qx, 0, none⟩), .pointer (some ⟨qy, 0, none⟩), .pointer (some ⟨qz, 0, none⟩)] 52)).alloc (.cells #[.int .i64 10, .string ⟨#[]⟩, .int .i64 0, .int .i64 0, .slice (some ⟨w5.heap.size, 0, none⟩) 3 3] 129)) := ((Below.refl _ _).alloc (Nat.le_refl _) _).alloc (by simp) _
              refine leave_ret (HD5.out.below hb5) hl (results_tmp rfl _ _ _) ?_
              have hpt := PT_new (k := 10) (lo := w.heap.size) [x, y, z] [.pointer (some ⟨qx, 0, none⟩), .pointer (some ⟨qy, 0, none⟩), .pointer (some ⟨qz, 0, none⟩)] w5 (by simp) (by omega) (fun i t v ht hv => ?_) [] 0
              · exact ⟨(HF5.out.more hb5 hlt).set 4 _, _, rfl, hpt.fr ((Fr.refl R _).set 4 _) hlt, (HD5.out.below hb5).level l⟩
              · match i, ht, hv with
                | 0, ht, hv => simp at ht hv; subst ht hv; exact HVx.out
                | 1, ht, hv => simp at ht hv; subst ht hv; exact HVy.out
                | 2, ht, hv => simp at ht hv; subst ht hv; exact HVz.out
                | n + 3, ht, hv => simp at ht

end Go.Proofs.YthemehdcakimgaiGreatDoor

namespace Go.Proofs.YthemehdcakimgaiGreatDoor
open Go.RowKit

set_option maxRecDepth 100000 in
set_option maxHeartbeats 2000000 in
theorem choiceX (R : Nat) (T : ByteArray) (f j l : Nat) (w : World) (hE : EC R T f) (hR : RdAt w R T j l) (hl : l ≤ 64) (r : Res Tr) (hr : r = (pEnter (by' T) 7 j l).bind fun _ a0 => (pExpr (by' T) f a0 (l + 1)).bind fun x a1 => (pTake (by' T) 8 a1).bind fun _ a2 => (pExpr (by' T) f a2 (l + 1)).bind fun y a3 => (pTake (by' T) 9 a3).bind fun _ a4 => (pExpr (by' T) f a4 (l + 1)).bind fun z a5 => .ok (.node 11 [] 0 0 [x, y, z]) a5) (hro : r ≠ .out) :
    Calls Tryz.prog 96 #[.pointer (some ⟨R, 0, none⟩)] w (Rx w R T l l (VX w.heap.size) r) := by
  have HT := hid (enterX R T j l 7 w hR hl)
  have hlt := hR.lt
  have HE := hid hE
  have HR := hid hr
  have HRO := hid hro
  clear hR hr hro hE
  go_enter_defers Tryz.func96, Tryz.ntmps96
  go_wp2_with fail
  refine HT.out.mono ?_
  intro e w0 he
  cases hp : pEnter (by' T) 7 j l with
  | out => exact absurd hp pEnter_out
  | bad er at' =>
    rw [hp] at he
    obtain ⟨h1, rfl, h2⟩ := he
    have hr2 := HR.out
    rw [hp] at hr2
    subst hr2
    exact ⟨h1, rfl, h2⟩
  | ok u a0 =>
    rw [hp] at he
    obtain ⟨h1, v, rfl, rfl, h2⟩ := he
    have hl64 : l + 1 ≤ 64 := by have := (pEnter_ok hp).2.2; omega
    have hr2 := HR.out
    rw [hp] at hr2
    simp only [Res.bind] at hr2
    have HF0 := hid h1
    have HD0 := hid h2
    have HR0 := hid hr2
    clear h1 h2 hp HT HR hr2
    have hr2 := HR0.out
    have hne : pExpr (by' T) f a0 (l + 1) ≠ .out := fun e => by rw [e] at hr2; exact HRO.out hr2
    have HC := hid (HE.out a0 (l + 1) w0 HD0.out hl64 hne)
    clear hr2
    go_wp2_with fail
    refine HC.out.mono ?_
    intro e w1 he
    have hr2 := HR0.out
    cases ht : pExpr (by' T) f a0 (l + 1) with
    | out => exact absurd ht hne
    | bad er at' =>
      rw [ht] at he hr2
      obtain ⟨h5, rfl, j3, h6⟩ := he
      (try simp only at hr2)
      subst hr2
      refine leave_pnc h6 hl ?_
      exact ⟨(HF0.out.trans h5).set 4 _, rfl, j3, h6.level l⟩
    | ok x a1 =>
      rw [ht] at he hr2
      obtain ⟨h5, v, rfl, hv, h6⟩ := he
      obtain ⟨qx, rfl⟩ := hv.form
      (try simp only at hr2)
      have HF1 := hid (HF0.out.trans h5)
      have HD1 := hid h6
      have HR1 := hid hr2
      have HVx := hid (hv.mono HF0.out.size : PT w.heap.size w1 x _)
      clear hv HC hne
      clear h5 h6 hr2 ht HF0 HD0 HR0
      have HT := hid (takeX R T a1 (l + 1) 8 w1 HD1.out)
      go_wp2_with fail
      refine HT.out.mono ?_
      intro e w2 he
      have hr2 := HR1.out
      cases ht : pTake (by' T) 8 a1 with
      | out => exact absurd ht pTake_out
      | bad er at' =>
        rw [ht] at he hr2
        obtain ⟨h5, rfl, j3, h6⟩ := he
        (try simp only at hr2)
        subst hr2
        refine leave_pnc h6 hl ?_
        exact ⟨(HF1.out.trans h5).set 4 _, rfl, j3, h6.level l⟩
      | ok t2 a2 =>
        rw [ht] at he hr2
        obtain ⟨h5, v, rfl, rfl, h6⟩ := he
        (try simp only at hr2)
        have HF2 := hid (HF1.out.trans h5)
        have HD2 := hid h6
        have HR2 := hid hr2
        replace HVx := hid (HVx.out.fr h5 hlt)
        clear HT
        clear h5 h6 hr2 ht HF1 HD1 HR1
        have hr2 := HR2.out
        have hne : pExpr (by' T) f a2 (l + 1) ≠ .out := fun e => by rw [e] at hr2; exact HRO.out hr2
        have HC := hid (HE.out a2 (l + 1) w2 HD2.out hl64 hne)
        clear hr2
        go_wp2_with fail
        refine HC.out.mono ?_
        intro e w3 he
        have hr2 := HR2.out
        cases ht : pExpr (by' T) f a2 (l + 1) with
        | out => exact absurd ht hne
        | bad er at' =>
          rw [ht] at he hr2
          obtain ⟨h5, rfl, j3, h6⟩ := he
          (try simp only at hr2)
          subst hr2
          refine leave_pnc h6 hl ?_
          exact ⟨(HF2.out.trans h5).set 4 _, rfl, j3, h6.level l⟩
        | ok y a3 =>
          rw [ht] at he hr2
          obtain ⟨h5, v, rfl, hv, h6⟩ := he
          obtain ⟨qy, rfl⟩ := hv.form
          (try simp only at hr2)
          have HF3 := hid (HF2.out.trans h5)
          have HD3 := hid h6
          have HR3 := hid hr2
          replace HVx := hid (HVx.out.fr h5 hlt)
          have HVy := hid (hv.mono HF2.out.size : PT w.heap.size w3 y _)
          clear hv HC hne
          clear h5 h6 hr2 ht HF2 HD2 HR2
          have HT := hid (takeX R T a3 (l + 1) 9 w3 HD3.out)
          go_wp2_with fail
          refine HT.out.mono ?_
          intro e w4 he
          have hr2 := HR3.out
          cases ht : pTake (by' T) 9 a3 with
          | out => exact absurd ht pTake_out
          | bad er at' =>
            rw [ht] at he hr2
            obtain ⟨h5, rfl, j3, h6⟩ := he
            (try simp only at hr2)
            subst hr2
            refine leave_pnc h6 hl ?_
            exact ⟨(HF3.out.trans h5).set 4 _, rfl, j3, h6.level l⟩
          | ok t4 a4 =>
            rw [ht] at he hr2
            obtain ⟨h5, v, rfl, rfl, h6⟩ := he
            (try simp only at hr2)
            have HF4 := hid (HF3.out.trans h5)
            have HD4 := hid h6
            have HR4 := hid hr2
            replace HVx := hid (HVx.out.fr h5 hlt)
            replace HVy := hid (HVy.out.fr h5 hlt)
            clear HT
            clear h5 h6 hr2 ht HF3 HD3 HR3
            have hr2 := HR4.out
            have hne : pExpr (by' T) f a4 (l + 1) ≠ .out := fun e => by rw [e] at hr2; exact HRO.out hr2
            have HC := hid (HE.out a4 (l + 1) w4 HD4.out hl64 hne)
            clear hr2
            go_wp2_with fail
            refine HC.out.mono ?_
            intro e w5 he
            have hr2 := HR4.out
            cases ht : pExpr (by' T) f a4 (l + 1) with
            | out => exact absurd ht hne
            | bad er at' =>
              rw [ht] at he hr2
              obtain ⟨h5, rfl, j3, h6⟩ := he
              (try simp only at hr2)
              subst hr2
              refine leave_pnc h6 hl ?_
              exact ⟨(HF4.out.trans h5).set 4 _, rfl, j3, h6.level l⟩
            | ok z a5 =>
              rw [ht] at he hr2
              obtain ⟨h5, v, rfl, hv, h6⟩ := he
              obtain ⟨qz, rfl⟩ := hv.form
              (try simp only at hr2)
              have HF5 := hid (HF4.out.trans h5)
              have HD5 := hid h6
              have HR5 := hid hr2
              replace HVx := hid (HVx.out.fr h5 hlt)
              replace HVy := hid (HVy.out.fr h5 hlt)
              have HVz := hid (hv.mono HF4.out.size : PT w.heap.size w5 z _)
              clear hv HC hne
              clear h5 h6 hr2 ht HF4 HD4 HR4
              go_wp2_with fail
              have hr3 := HR5.out
              subst hr3
              have hs := HF5.out.size
              have hb5 : Below w5.heap.size w5 ((w5.alloc (.cells #[.pointer (some ⟨qx, 0, none⟩), .pointer (some ⟨qy, 0, none⟩), .pointer (some ⟨qz, 0, none⟩)] 52)).alloc (.cells #[.int .i64 11, .string ⟨#[]⟩, .int .i64 0, .int .i64 0, .slice (some ⟨w5.heap.size, 0, none⟩) 3 3] 129)) := ((Below.refl _ _).alloc (Nat.le_refl _) _).alloc (by simp) _
              refine leave_ret (HD5.out.below hb5) hl (results_tmp rfl _ _ _) ?_
              have hpt := PT_new (k := 11) (lo := w.heap.size) [x, y, z] [.pointer (some ⟨qx, 0, none⟩), .pointer (some ⟨qy, 0, none⟩), .pointer (some ⟨qz, 0, none⟩)] w5 (by simp) (by omega) (fun i t v ht hv => ?_) [] 0
              · exact ⟨(HF5.out.more hb5 hlt).set 4 _, _, rfl, hpt.fr ((Fr.refl R _).set 4 _) hlt, (HD5.out.below hb5).level l⟩
              · match i, ht, hv with
                | 0, ht, hv => simp at ht hv; subst ht hv; exact HVx.out
                | 1, ht, hv => simp at ht hv; subst ht hv; exact HVy.out
                | 2, ht, hv => simp at ht hv; subst ht hv; exact HVz.out
                | n + 3, ht, hv => simp at ht

end Go.Proofs.YthemehdcakimgaiGreatDoor
