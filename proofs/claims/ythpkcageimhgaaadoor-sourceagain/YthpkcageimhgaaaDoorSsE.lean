/- Package source: a text's functions, or its first fault. -/
import Derived.Test.YthpkcageimhgaaaDoorSqAL
namespace Go.Proofs.YthpkcageimhgaaaDoor
open Go.RowKit

/-- a text read, and its names checked -/
def pRes (L : List UInt8) (f : Nat) : Res (List FnT) := match pProg L f [] 0 with
  | .ok fs j => match ckn fs L.length with
    | none => .ok fs j
    | some e => .bad e.1 e.2
  | .bad e at' => .bad e at'
  | .out => .out
/-- how parsed ends -/
def PdR (w : World) (r : Res (List FnT)) (e : Ending) (w' : World) : Prop := Below w.heap.size w w' ∧ match r with
  | .ok fs _ => ∃ a c, e = .returned (.tuple #[.slice a fs.length c, .int .i64 0, .nilIface]) ∧ (fs.length ≤ c ∧ c ≤ maxLen) ∧ FnR w.heap.size w' a fs
  | .bad er at' => e = .returned (.tuple #[.slice none 0 0, .int .i64 (at' : Int), .iface 30 (.int .i64 (er : Int))])
  | .out => False
/-- what stands in parsed -/
structure PdS (C : Nat) (v1 v2 v3 : Value) (w W : World) : Prop where
  s1 : W.heap[C]? = some (.cells #[v1] 31 (0, 0))
  s2 : W.heap[C + 1]? = some (.cells #[v2] 3 (0, 0))
  s3 : W.heap[C + 1 + 1]? = some (.cells #[v3] 24 (0, 0))
  bel : Below w.heap.size w W
  hC : w.heap.size ≤ C
theorem pdS_of (w : World) : PdS w.heap.size (.slice none 0 0) (.int .i64 0) .nilIface w (((w.alloc (.cells #[.slice none 0 0] 31)).alloc (.cells #[.int .i64 0] 3)).alloc (.cells #[.nilIface] 24)) := by
  obtain ⟨V1, h1⟩ : ∃ V, V = w.alloc (.cells #[.slice none 0 0] 31) := ⟨_, rfl⟩
  obtain ⟨V2, h2⟩ : ∃ V, V = V1.alloc (.cells #[.int .i64 0] 3) := ⟨_, rfl⟩
  rw [← h1, ← h2]
  have e1 : V1.heap.size = w.heap.size + 1 := by rw [h1]; simp
  have e2 : V2.heap.size = w.heap.size + 1 + 1 := by rw [h2]; simp [e1]
  have b1 : Below w.heap.size w V1 := by rw [h1]; exact (Below.refl _ _).alloc (Nat.le_refl _) _
  have b2 : Below V1.heap.size V1 V2 := by rw [h2]; exact (Below.refl _ _).alloc (Nat.le_refl _) _
  have b3 : Below V2.heap.size V2 (V2.alloc (.cells #[.nilIface] 24)) := (Below.refl _ _).alloc (Nat.le_refl _) _
  have n1 : V1.heap[w.heap.size]? = some (.cells #[.slice none 0 0] 31 (0, 0)) := by rw [h1]; exact heap_alloc_new w _
  have n2 : V2.heap[w.heap.size + 1]? = some (.cells #[.int .i64 0] 3 (0, 0)) := by rw [← e1, h2]; exact heap_alloc_new V1 _
  exact ⟨(b3.block _ (by omega)).trans ((b2.block _ (by omega)).trans n1), (b3.block _ (by omega)).trans n2, by rw [← e2]; exact heap_alloc_new V2 _, b1.trans ((b2.mono (by omega)).trans (b3.mono (by omega))), Nat.le_refl _⟩
theorem oneS_row {W : World} {g : Nat} {t : TypeId} {v : Value} (h : W.heap[g]? = some (.cells #[v] t (0, 0))) : W.rowIs g t 1 (fun _ => v) := ⟨_, h, rfl, fun i hi => by
    have : i = 0 := by omega
    rw [this]
    rfl⟩
theorem oneS_cell {W : World} {g : Nat} {t : TypeId} {v : Value} (h : W.heap[g]? = some (.cells #[v] t (0, 0))) : W.cell? ⟨g, 0, none⟩ = some v := by simp [World.cell?, h]
theorem oneS_set {W : World} {g : Nat} {t : TypeId} {v : Value} (h : W.heap[g]? = some (.cells #[v] t (0, 0))) (x : Value) : (W.setCell ⟨g, 0, none⟩ x).heap[g]? = some (.cells #[x] t (0, 0)) := by
  obtain ⟨c, hb, hs, hc⟩ := (oneS_row h).set 0 x
  rw [hb]
  congr 2
  apply Array.ext
  · simpa using hs
  · intro i h1 h2
    have hi : i = 0 := by simp at h2; omega
    subst hi
    have := hc 0 (by omega)
    rw [Array.getElem?_eq_getElem h1] at this
    injection this
section
variable {C : Nat} {v1 v2 v3 : Value} {w W W' : World}
theorem PdS.step (h : PdS C v1 v2 v3 w W) (e : Below W.heap.size W W') : PdS C v1 v2 v3 w W' :=
  ⟨(e.block _ (Array.getElem?_eq_some_iff.1 h.s1).1).trans h.s1, (e.block _ (Array.getElem?_eq_some_iff.1 h.s2).1).trans h.s2, (e.block _ (Array.getElem?_eq_some_iff.1 h.s3).1).trans h.s3, h.bel.trans (e.mono h.bel.size), h.hC⟩
theorem PdS.drew (h : PdS C v1 v2 v3 w W) : PdS C v1 v2 v3 w W.drew := ⟨h.s1, h.s2, h.s3, h.bel.trans ⟨rfl, rfl, rfl, Nat.le_refl _, fun _ _ => rfl⟩, h.hC⟩
theorem PdS.put1 (h : PdS C v1 v2 v3 w W) (x : Value) : PdS C x v2 v3 w (W.setCell ⟨C, 0, none⟩ x) := by
  have o1 : ∀ (k : Nat), k ≠ C → (W.setCell ⟨C, 0, none⟩ x).heap[k]? = W.heap[k]? := fun k hk => Below.heap_setCell _ _ _ _ hk
  have hc := h.hC
  exact ⟨oneS_set h.s1 x, (o1 _ (by omega)).trans h.s2, (o1 _ (by omega)).trans h.s3, ⟨h.bel.os, h.bel.tape, h.bel.output, by simpa [World.setCell] using h.bel.size, fun k hk => (o1 k (by omega)).trans (h.bel.block k hk)⟩, hc⟩
theorem PdS.put2 (h : PdS C v1 v2 v3 w W) (x : Value) : PdS C v1 x v3 w (W.setCell ⟨C + 1, 0, none⟩ x) := by
  have o1 : ∀ (k : Nat), k ≠ C + 1 → (W.setCell ⟨C + 1, 0, none⟩ x).heap[k]? = W.heap[k]? := fun k hk => Below.heap_setCell _ _ _ _ hk
  have hc := h.hC
  exact ⟨(o1 _ (by omega)).trans h.s1, oneS_set h.s2 x, (o1 _ (by omega)).trans h.s3, ⟨h.bel.os, h.bel.tape, h.bel.output, by simpa [World.setCell] using h.bel.size, fun k hk => (o1 k (by omega)).trans (h.bel.block k hk)⟩, hc⟩
theorem PdS.put3 (h : PdS C v1 v2 v3 w W) (x : Value) : PdS C v1 v2 x w (W.setCell ⟨C + 1 + 1, 0, none⟩ x) := by
  have o1 : ∀ (k : Nat), k ≠ C + 1 + 1 → (W.setCell ⟨C + 1 + 1, 0, none⟩ x).heap[k]? = W.heap[k]? := fun k hk => Below.heap_setCell _ _ _ _ hk
  have hc := h.hC
  exact ⟨(o1 _ (by omega)).trans h.s1, (o1 _ (by omega)).trans h.s2, oneS_set h.s3 x, ⟨h.bel.os, h.bel.tape, h.bel.output, by simpa [World.setCell] using h.bel.size, fun k hk => (o1 k (by omega)).trans (h.bel.block k hk)⟩, hc⟩
end
theorem FnR.kept {lo lo' : Nat} {w w' : World} {a : Option Addr} {fs : List FnT} (h : FnR lo w a fs) (hl : lo' ≤ lo) (hk : ∀ b, lo ≤ b → b < w.heap.size → w'.heap[b]? = w.heap[b]?) : FnR lo' w' a fs := fun i x hx => by
  obtain ⟨k, a2, c, b, h1, h2, h3, h4, h5, h6, h7, h8⟩ := h i x hx
  have hb := hk k h2 (World.block_lt_of_cell? _ _ h3)
  exact ⟨k, a2, c, b, h1, Nat.le_trans hl h2, (World.cell?_of_block (a := ⟨k, i * 4, none⟩) hb).trans h3, (World.cell?_of_block (a := ⟨k, i * 4 + 1, none⟩) hb).trans h4, (World.cell?_of_block (a := ⟨k, i * 4 + 2, none⟩) hb).trans h5, (World.cell?_of_block (a := ⟨k, i * 4 + 3, none⟩) hb).trans h6, NmB.keep (B := fun x => lo ≤ x) (B' := fun x => lo' ≤ x) h7 (fun b hb hl' => ⟨Nat.le_trans hl hb, hk b hb hl'⟩), (h8.keep hk).mono hl⟩

set_option maxRecDepth 100000 in
set_option maxHeartbeats 2000000 in
theorem parsed_any (T : ByteArray) (f : Nat) (w : World) (hT : T.size ≤ 4000) (hEv : EvW w) (r : Res (List FnT)) (hr : r = pRes (by' T) f) (hro : r ≠ .out) :
    Calls Tryd.prog 7 #[.string T] w (PdR w r) := by
  have hmf : ∀ (fn : Fn) (first cap : Array Value) (w : World), (Instr.makeFunc fn first cap).run Tryd.prog w = .ok (.func fn first cap) w := fun _ _ _ _ => rfl
  obtain ⟨q, hq⟩ : ∃ q, q = pProg (by' T) f [] 0 := ⟨_, rfl⟩
  have hqo : q ≠ .out := fun e => by rw [e] at hq; unfold pRes at hr; rw [← hq] at hr; exact hro hr
  have HW0 := hid (pdS_of w)
  have HRD := hid (readX T f (((w.alloc (.cells #[.slice none 0 0] 31)).alloc (.cells #[.int .i64 0] 3)).alloc (.cells #[.nilIface] 24)) hT (hEv.below (HW0.out.bel)) q hq hqo)
  obtain ⟨W0, hW0⟩ : ∃ W0, W0 = ((w.alloc (.cells #[.slice none 0 0] 31)).alloc (.cells #[.int .i64 0] 3)).alloc (.cells #[.nilIface] 24) := ⟨_, rfl⟩
  rw [← hW0] at HW0 HRD
  obtain ⟨C, hC⟩ : ∃ C, C = w.heap.size := ⟨_, rfl⟩
  rw [← hC] at HW0
  have HCC := hid hC
  have HR := hid hr
  have HQ := hid hq
  have HT := hid hT
  have HWD : Hid (∀ e w', PdR w r e w' → PdR w r e w') := fun _ _ h => h
  clear hEv hro hqo hT hr hq
  go_enter_defers Tryd.func7, Tryd.ntmps7
  go_wp2_with fail
  rw [← hW0]
  refine HRD.out.mono ?_
  intro e w1 he
  obtain ⟨hb1, he⟩ := he
  have HW1 := hid (HW0.out.step hb1)
  rw [← hC]
  cases hqq : q with
  | out => rw [hqq] at he; exact he.elim
  | bad er at' =>
    rw [hqq] at he
    have he' : e = pncF at' er := he
    subst he'
    have hre : r = .bad er at' := by
      have h1 := HR.out
      unfold pRes at h1
      rw [← HQ.out, hqq] at h1
      exact h1
    subst hre
    have HK1 := oneS_cell HW1.out.s1
    have HK2 := oneS_cell HW1.out.s2
    have HK3 := oneS_cell HW1.out.s3
    refine leaves_cons (f := 12) (args := #[.pointer (some ⟨C, 0, none⟩), .pointer (some ⟨C + 1, 0, none⟩), .pointer (some ⟨C + 1 + 1, 0, none⟩)]) (by simp) (by simp [go_sem]) ?_
    refine (catchS_fault C (C + 1) (C + 1 + 1) at' er _ _ _ w1 HK1 HK2 HK3 ((oneS_row HW1.out.s1).frozen 0) ((oneS_row HW1.out.s2).frozen 0) ((oneS_row HW1.out.s3).frozen 0) (by omega) (by omega) (by omega)).mono ?_
    rintro e u' w4 ⟨rfl, rfl, hw4⟩
    have HD4 : Hid (PdS C (.slice none 0 0) (.int .i64 (at' : Int)) (.iface 30 (.int .i64 (er : Int))) w w4) := by
      unfold Hid
      rw [hw4]
      exact ((((HW1.out.step ((Below.refl _ _).alloc (Nat.le_refl _) _)).drew).put1 _).put2 _).put3 _
    have e1 : w4.cell? ⟨C, 0, none⟩ = some (.slice none 0 0) := oneS_cell HD4.out.s1
    have e2 : w4.cell? ⟨C + 1, 0, none⟩ = some (.int .i64 (at' : Int)) := oneS_cell HD4.out.s2
    have e3 : w4.cell? ⟨C + 1 + 1, 0, none⟩ = some (.iface 30 (.int .i64 (er : Int))) := oneS_cell HD4.out.s3
    have hE := HWD.out (.returned (.tuple #[.slice none 0 0, .int .i64 (at' : Int), .iface 30 (.int .i64 (er : Int))])) w4 ⟨HD4.out.bel, rfl⟩
    clear hw4 HD4 HW1 HWD HK1 HK2 HK3
    simp [Leaves, settle, results, Tryd.results7, go_sem, e1, e2, e3]
    exact hE
  | ok fs j =>
    rw [hqq] at he
    obtain ⟨a, c, rfl, hcc, hF⟩ := he
    have hal := pProg_al (by' T) (by rw [by_len]; exact HT.out) f [] 0 (by simp) (Nat.le_refl _) (Nat.zero_le _)
    rw [← HQ.out, hqq] at hal
    obtain ⟨⟨_, hj⟩, hfw, hfl⟩ := hal
    have hfl4 : fs.length ≤ 4000 := by have := HT.out; rw [by_len] at hj; omega
    have hre : r = match ckn fs T.size with
        | none => .ok fs j
        | some e => .bad e.1 e.2 := by
      have h1 := HR.out
      unfold pRes at h1
      rw [← HQ.out, hqq] at h1
      rw [by_len] at h1
      exact h1
    have k1 := oneS_cell HW1.out.s1
    have k2 := oneS_cell HW1.out.s2
    have k3 := oneS_cell HW1.out.s3
    have m1 := (oneS_row HW1.out.s1).frozen
    have m2 := (oneS_row HW1.out.s2).frozen
    have m3 := (oneS_row HW1.out.s3).frozen
    obtain ⟨w2, hw2⟩ : ∃ w2, w2 = w1.setCell ⟨C, 0, none⟩ (.slice a fs.length c) := ⟨_, rfl⟩
    have HW2 : Hid (PdS C (.slice a fs.length c) (.int .i64 0) .nilIface w w2) := by unfold Hid; rw [hw2]; exact HW1.out.put1 _
    have hCw : C < W0.heap.size := (Array.getElem?_eq_some_iff.1 HW0.out.s1).1
    have hsz2 : w2.heap.size = w1.heap.size := by rw [hw2]; simp [World.setCell]
    have HF2 : Hid (FnR W0.heap.size w2 a fs) := FnR.kept hF (Nat.le_refl _) (fun b hb _ => by rw [hw2]; exact Below.heap_setCell _ _ _ _ (by show b ≠ C; omega))
    have HCN := hid (checkNames_any T fs a c w2 (FnR.kept HF2.out (Nat.zero_le _) (fun _ _ _ => rfl)) hcc.1 hfl4 (fun g hg => (hfw g hg).ok) HT.out)
    have HRE := hid hre
    have HCP := hid hcc
    have HSZ : Hid (C + 1 + 1 < W0.heap.size ∧ w.heap.size ≤ W0.heap.size) := ⟨(Array.getElem?_eq_some_iff.1 HW0.out.s3).1, HW0.out.bel.size⟩
    obtain ⟨n, hn⟩ : ∃ n, n = fs.length := ⟨_, rfl⟩
    have HN := hid hn
    rw [← hn] at HW2 HCN hw2 ⊢
    clear hre hqq hF hb1 hcc hfw hfl hj hfl4 HRD hW0 hC HQ HR hCw hsz2 hn
    go_wp2_with fail
    rw [← hw2]
    clear hw2 k1 k2 k3 m1 m2 m3
    refine HCN.out.mono ?_
    intro e w3 he
    obtain ⟨hb3, he⟩ := he
    have HW3 := hid (HW2.out.step hb3)
    have HF3 : Hid (FnR W0.heap.size w3 a fs) := FnR.kept HF2.out (Nat.le_refl _) (fun b _ hl => hb3.block b hl)
    clear HCN hb3 HF2 HW2 HW1
    cases hck : ckn fs T.size with
    | some y =>
      rw [hck] at he
      have he' : e = pncF y.2 y.1 := he
      subst he'
      have hr2 := HRE.out
      rw [hck] at hr2
      have hr3 : r = .bad y.1 y.2 := hr2
      subst hr3
      have HK1 := oneS_cell HW3.out.s1
      have HK2 := oneS_cell HW3.out.s2
      have HK3 := oneS_cell HW3.out.s3
      refine leaves_cons (f := 12) (args := #[.pointer (some ⟨C, 0, none⟩), .pointer (some ⟨C + 1, 0, none⟩), .pointer (some ⟨C + 1 + 1, 0, none⟩)]) (by simp) (by simp [go_sem]) ?_
      refine (catchS_fault C (C + 1) (C + 1 + 1) y.2 y.1 _ _ _ w3 HK1 HK2 HK3 ((oneS_row HW3.out.s1).frozen 0) ((oneS_row HW3.out.s2).frozen 0) ((oneS_row HW3.out.s3).frozen 0) (by omega) (by omega) (by omega)).mono ?_
      rintro e u' w4 ⟨rfl, rfl, hw4⟩
      have HD4 : Hid (PdS C (.slice none 0 0) (.int .i64 (y.2 : Int)) (.iface 30 (.int .i64 (y.1 : Int))) w w4) := by
        unfold Hid
        rw [hw4]
        exact ((((HW3.out.step ((Below.refl _ _).alloc (Nat.le_refl _) _)).drew).put1 _).put2 _).put3 _
      have e1 : w4.cell? ⟨C, 0, none⟩ = some (.slice none 0 0) := oneS_cell HD4.out.s1
      have e2 : w4.cell? ⟨C + 1, 0, none⟩ = some (.int .i64 (y.2 : Int)) := oneS_cell HD4.out.s2
      have e3 : w4.cell? ⟨C + 1 + 1, 0, none⟩ = some (.iface 30 (.int .i64 (y.1 : Int))) := oneS_cell HD4.out.s3
      have hE := HWD.out (.returned (.tuple #[.slice none 0 0, .int .i64 (y.2 : Int), .iface 30 (.int .i64 (y.1 : Int))])) w4 ⟨HD4.out.bel, rfl⟩
      clear hw4 HD4 HW3 HWD HK1 HK2 HK3
      simp [Leaves, settle, results, Tryd.results7, go_sem, e1, e2, e3]
      exact hE
    | none =>
      rw [hck] at he
      obtain ⟨v, rfl⟩ := he
      have hr2 := HRE.out
      rw [hck] at hr2
      have hr3 : r = .ok fs j := hr2
      subst hr3
      clear hr2 HRE hck
      have k1 := oneS_cell HW3.out.s1
      have k2 := oneS_cell HW3.out.s2
      have k3 := oneS_cell HW3.out.s3
      have m1 := (oneS_row HW3.out.s1).frozen
      have m2 : ∀ i, w3.frozen? ⟨C + 1, i, none⟩ = false := (oneS_row HW3.out.s2).frozen
      have m3 : ∀ i, w3.frozen? ⟨C + 1 + 1, i, none⟩ = false := (oneS_row HW3.out.s3).frozen
      obtain ⟨V, hV⟩ : ∃ V, V = ((w3.setCell ⟨C, 0, none⟩ (.slice a n c)).setCell ⟨C + 1, 0, none⟩ (.int .i64 0)).setCell ⟨C + 1 + 1, 0, none⟩ .nilIface := ⟨_, rfl⟩
      have HD4 : Hid (PdS C (.slice a n c) (.int .i64 0) .nilIface w V) := by unfold Hid; rw [hV]; exact ((HW3.out.put1 _).put2 _).put3 _
      have HFV : Hid (FnR w.heap.size V a fs) := FnR.kept HF3.out HSZ.out.2 (fun b hb _ => by
        have := HSZ.out.1
        rw [hV, Below.heap_setCell _ _ _ _ (by show b ≠ C + 1 + 1; omega), Below.heap_setCell _ _ _ _ (by show b ≠ C + 1; omega), Below.heap_setCell _ _ _ _ (by show b ≠ C; omega)])
      go_wp2_with fail
      rw [← hV]
      refine leaves_cons (f := 12) (args := #[.pointer (some ⟨C, 0, none⟩), .pointer (some ⟨C + 1, 0, none⟩), .pointer (some ⟨C + 1 + 1, 0, none⟩)]) (by simp) (by simp [go_sem]) ?_
      refine (catchS_idle ⟨C, 0, none⟩ ⟨C + 1, 0, none⟩ ⟨C + 1 + 1, 0, none⟩ V).mono ?_
      rintro e u' w4 ⟨rfl, rfl, hw4⟩
      rw [hw4]
      have e1 : V.cell? ⟨C, 0, none⟩ = some (.slice a n c) := oneS_cell HD4.out.s1
      have e2 : V.cell? ⟨C + 1, 0, none⟩ = some (.int .i64 0) := oneS_cell HD4.out.s2
      have e3 : V.cell? ⟨C + 1 + 1, 0, none⟩ = some .nilIface := oneS_cell HD4.out.s3
      have hE := HWD.out (.returned (.tuple #[.slice a n c, .int .i64 0, .nilIface])) V ⟨HD4.out.bel, a, c, by rw [HN.out], HCP.out, HFV.out⟩
      clear hV hw4 HD4 HW3 HWD k1 k2 k3 m1 m2 m3 HFV HF3
      simp [Leaves, settle, results, Tryd.results7, go_sem, e1, e2, e3]
      exact hE

end Go.Proofs.YthpkcageimhgaaaDoor
