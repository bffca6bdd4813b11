/- Package source: a text's functions, or its first fault. Package source: Parse. Package source: a function of a name. Package source: the names of the functions. Package source: what a program comes to, plainly; a part that is looked at. Package source: values, two after one another. Package source: signs between two parts. -/
import Derived.Test.YtlgcmeachjjmgajGreatDoorBgO
import Derived.Deep.OwnRows
import Derived.Test.YtlgcmeachjjmgajGreatDoorSpgs
namespace Go.Proofs.YtlgcmeachjjmgajGreatDoor
open Go.RowKit

/-- a text read, and its names checked -/
def pRes (L : List UInt8) (f : Nat) : Res (List FnT) := match pProg L f [] 0 with
  | .ok fs j => match ckn fs L.length with
    | none => .ok fs j
    | some e => .bad e.1 e.2
  | .bad e at' => .bad e at'
  | .out => .out
/-- how parsed ends -/
def PdR (w : World) (r : Res (List FnT)) (e : Ending) (w' : World) : Prop := Below w.heap.size w w' ∧ match r with
  | .ok fs _ => ∃ a c, e = .returned (.tuple #[.slice a fs.length c, .int .i64 0, .nilIface]) ∧ (fs.length ≤ c ∧ c ≤ maxLen) ∧ FnR w.heap.size w' a fs
  | .bad er at' => e = .returned (.tuple #[.slice none 0 0, .int .i64 (at' : Int), .iface 72 (.int .i64 (er : Int))])
  | .out => False
/-- what stands in parsed -/
structure PdS (C : Nat) (v1 v2 v3 : Value) (w W : World) : Prop where
  s1 : W.heap[C]? = some (.cells #[v1] 73 (0, 0))
  s2 : W.heap[C + 1]? = some (.cells #[v2] 3 (0, 0))
  s3 : W.heap[C + 1 + 1]? = some (.cells #[v3] 28 (0, 0))
  bel : Below w.heap.size w W
  hC : w.heap.size ≤ C
theorem pdS_of (w : World) : PdS w.heap.size (.slice none 0 0) (.int .i64 0) .nilIface w (((w.alloc (.cells #[.slice none 0 0] 73)).alloc (.cells #[.int .i64 0] 3)).alloc (.cells #[.nilIface] 28)) := by
  obtain ⟨V1, h1⟩ : ∃ V, V = w.alloc (.cells #[.slice none 0 0] 73) := ⟨_, rfl⟩
  obtain ⟨V2, h2⟩ : ∃ V, V = V1.alloc (.cells #[.int .i64 0] 3) := ⟨_, rfl⟩
  rw [← h1, ← h2]
  have e1 : V1.heap.size = w.heap.size + 1 := by rw [h1]; simp
  have e2 : V2.heap.size = w.heap.size + 1 + 1 := by rw [h2]; simp [e1]
  have b1 : Below w.heap.size w V1 := by rw [h1]; exact (Below.refl _ _).alloc (Nat.le_refl _) _
  have b2 : Below V1.heap.size V1 V2 := by rw [h2]; exact (Below.refl _ _).alloc (Nat.le_refl _) _
  have b3 : Below V2.heap.size V2 (V2.alloc (.cells #[.nilIface] 28)) := (Below.refl _ _).alloc (Nat.le_refl _) _
  have n1 : V1.heap[w.heap.size]? = some (.cells #[.slice none 0 0] 73 (0, 0)) := by rw [h1]; exact heap_alloc_new w _
  have n2 : V2.heap[w.heap.size + 1]? = some (.cells #[.int .i64 0] 3 (0, 0)) := by rw [← e1, h2]; exact heap_alloc_new V1 _
  exact ⟨(b3.block _ (by omega)).trans ((b2.block _ (by omega)).trans n1), (b3.block _ (by omega)).trans n2, by rw [← e2]; exact heap_alloc_new V2 _, b1.trans ((b2.mono (by omega)).trans (b3.mono (by omega))), Nat.le_refl _⟩
theorem oneS_row {W : World} {g : Nat} {t : TypeId} {v : Value} (h : W.heap[g]? = some (.cells #[v] t (0, 0))) : W.rowIs g t 1 (fun _ => v) := ⟨_, h, rfl, fun i hi => by
    have : i = 0 := by omega
    rw [this]
    rfl⟩
theorem oneS_cell {W : World} {g : Nat} {t : TypeId} {v : Value} (h : W.heap[g]? = some (.cells #[v] t (0, 0))) : W.cell? ⟨g, 0, none⟩ = some v := by simp [World.cell?, h]
theorem oneS_set {W : World} {g : Nat} {t : TypeId} {v : Value} (h : W.heap[g]? = some (.cells #[v] t (0, 0))) (x : Value) : (W.setCell ⟨g, 0, none⟩ x).heap[g]? = some (.cells #[x] t (0, 0)) := by
  obtain ⟨c, hb, hs, hc⟩ := (oneS_row h).set 0 x
  rw [hb]
  congr 2
  apply Array.ext
  · simpa using hs
  · intro i h1 h2
    have hi : i = 0 := by simp at h2; omega
    subst hi
    have := hc 0 (by omega)
    rw [Array.getElem?_eq_getElem h1] at this
    injection this
section
variable {C : Nat} {v1 v2 v3 : Value} {w W W' : World}
theorem PdS.step (h : PdS C v1 v2 v3 w W) (e : Below W.heap.size W W') : PdS C v1 v2 v3 w W' :=
  ⟨(e.block _ (Array.getElem?_eq_some_iff.1 h.s1).1).trans h.s1, (e.block _ (Array.getElem?_eq_some_iff.1 h.s2).1).trans h.s2, (e.block _ (Array.getElem?_eq_some_iff.1 h.s3).1).trans h.s3, h.bel.trans (e.mono h.bel.size), h.hC⟩
theorem PdS.drew (h : PdS C v1 v2 v3 w W) : PdS C v1 v2 v3 w W.drew := ⟨h.s1, h.s2, h.s3, h.bel.trans ⟨rfl, rfl, rfl, Nat.le_refl _, fun _ _ => rfl⟩, h.hC⟩
theorem PdS.put1 (h : PdS C v1 v2 v3 w W) (x : Value) : PdS C x v2 v3 w (W.setCell ⟨C, 0, none⟩ x) := by
  have o1 : ∀ (k : Nat), k ≠ C → (W.setCell ⟨C, 0, none⟩ x).heap[k]? = W.heap[k]? := fun k hk => Below.heap_setCell _ _ _ _ hk
  have hc := h.hC
  exact ⟨oneS_set h.s1 x, (o1 _ (by omega)).trans h.s2, (o1 _ (by omega)).trans h.s3, ⟨h.bel.os, h.bel.tape, h.bel.output, by simpa [World.setCell] using h.bel.size, fun k hk => (o1 k (by omega)).trans (h.bel.block k hk)⟩, hc⟩
theorem PdS.put2 (h : PdS C v1 v2 v3 w W) (x : Value) : PdS C v1 x v3 w (W.setCell ⟨C + 1, 0, none⟩ x) := by
  have o1 : ∀ (k : Nat), k ≠ C + 1 → (W.setCell ⟨C + 1, 0, none⟩ x).heap[k]? = W.heap[k]? := fun k hk => Below.heap_setCell _ _ _ _ hk
  have hc := h.hC
  exact ⟨(o1 _ (by omega)).trans h.s1, oneS_set h.s2 x, (o1 _ (by omega)).trans h.s3, ⟨h.bel.os, h.bel.tape, h.bel.output, by simpa [World.setCell] using h.bel.size, fun k hk => (o1 k (by omega)).trans (h.bel.block k hk)⟩, hc⟩
theorem PdS.put3 (h : PdS C v1 v2 v3 w W) (x : Value) : PdS C v1 v2 x w (W.setCell ⟨C + 1 + 1, 0, none⟩ x) := by
  have o1 : ∀ (k : Nat), k ≠ C + 1 + 1 → (W.setCell ⟨C + 1 + 1, 0, none⟩ x).heap[k]? = W.heap[k]? := fun k hk => Below.heap_setCell _ _ _ _ hk
  have hc := h.hC
  exact ⟨(o1 _ (by omega)).trans h.s1, (o1 _ (by omega)).trans h.s2, oneS_set h.s3 x, ⟨h.bel.os, h.bel.tape, h.bel.output, by simpa [World.setCell] using h.bel.size, fun k hk => (o1 k (by omega)).trans (h.bel.block k hk)⟩, hc⟩
end
theorem FnR.kept {lo lo' : Nat} {w w' : World} {a : Option Addr} {fs : List FnT} (h : FnR lo w a fs) (hl : lo' ≤ lo) (hk : ∀ b, lo ≤ b → b < w.heap.size → w'.heap[b]? = w.heap[b]?) : FnR lo' w' a fs := fun i x hx => by
  obtain ⟨k, a2, c, b, h1, h2, h3, h4, h5, h6, h7, h8⟩ := h i x hx
  have hb := hk k h2 (World.block_lt_of_cell? _ _ h3)
  exact ⟨k, a2, c, b, h1, Nat.le_trans hl h2, (World.cell?_of_block (a := ⟨k, i * 4, none⟩) hb).trans h3, (World.cell?_of_block (a := ⟨k, i * 4 + 1, none⟩) hb).trans h4, (World.cell?_of_block (a := ⟨k, i * 4 + 2, none⟩) hb).trans h5, (World.cell?_of_block (a := ⟨k, i * 4 + 3, none⟩) hb).trans h6, NmB.keep (B := fun x => lo ≤ x) (B' := fun x => lo' ≤ x) h7 (fun b hb hl' => ⟨Nat.le_trans hl hb, hk b hb hl'⟩), (h8.keep hk).mono hl⟩

set_option maxRecDepth 100000 in
set_option maxHeartbeats 2000000 in
theorem parsed_any (T : ByteArray) (f : Nat) (w : World) (hT : T.size ≤ 4000) (hEv : EvW w) (r : Res (List FnT)) (hr : r = pRes (by' T) f) (hro : r ≠ .out) :
    Calls Tryz.prog 25 #[.string T] w (PdR w r) := by
  have hmf : ∀ (fn : Fn) (first cap : Array Value) (w : World), (Instr.makeFunc fn first cap).run Tryz.prog w = .ok (.func fn first cap) w := fun _ _ _ _ => rfl
  obtain ⟨q, hq⟩ : ∃ q, q = pProg (by' T) f [] 0 := ⟨_, rfl⟩
  have hqo : q ≠ .out := fun e => by rw [e] at hq; unfold pRes at hr; rw [← hq] at hr; exact hro hr
  have HW0 := hid (pdS_of w)
  have HRD := hid (readX T f (((w.alloc (.cells #[.slice none 0 0] 73)).alloc (.cells #[.int .i64 0] 3)).alloc (.cells #[.nilIface] 28)) hT (hEv.below (HW0.out.bel)) q hq hqo)
  obtain ⟨W0, hW0⟩ : ∃ W0, W0 = ((w.alloc (.cells #[.slice none 0 0] 73)).alloc (.cells #[.int .i64 0] 3)).alloc (.cells #[.nilIface] 28) := ⟨_, rfl⟩
  rw [← hW0] at HW0 HRD
  obtain ⟨C, hC⟩ : ∃ C, C = w.heap.size := ⟨_, rfl⟩
  rw [← hC] at HW0
  have HCC := hid hC
  have HR := hid hr
  have HQ := hid hq
  have HT := hid hT
  have HWD : Hid (∀ e w', PdR w r e w' → PdR w r e w') := fun _ _ h => h
  clear hEv hro hqo hT hr hq
  go_enter_defers Tryz.func25, Tryz.ntmps25
  go_wp2_with fail
  rw [← hW0]
  refine HRD.out.mono ?_
  intro e w1 he
  obtain ⟨hb1, he⟩ := he
  have HW1 := hid (HW0.out.step hb1)
  rw [← hC]
  cases hqq : q with
  | out => rw [hqq] at he; exact he.elim
  | bad er at' =>
    rw [hqq] at he
    have he' : e = pncF at' er := he
    subst he'
    have hre : r = .bad er at' := by
      have h1 := HR.out
      unfold pRes at h1
      rw [← HQ.out, hqq] at h1
      exact h1
    subst hre
    have HK1 := oneS_cell HW1.out.s1
    have HK2 := oneS_cell HW1.out.s2
    have HK3 := oneS_cell HW1.out.s3
    refine leaves_cons (f := 44) (args := #[.pointer (some ⟨C, 0, none⟩), .pointer (some ⟨C + 1, 0, none⟩), .pointer (some ⟨C + 1 + 1, 0, none⟩)]) (by simp) (by simp [go_sem]) ?_
    refine (catchS_fault C (C + 1) (C + 1 + 1) at' er _ _ _ w1 HK1 HK2 HK3 ((oneS_row HW1.out.s1).frozen 0) ((oneS_row HW1.out.s2).frozen 0) ((oneS_row HW1.out.s3).frozen 0) (by omega) (by omega) (by omega)).mono ?_
    rintro e u' w4 ⟨rfl, rfl, hw4⟩
    have HD4 : Hid (PdS C (.slice none 0 0) (.int .i64 (at' : Int)) (.iface 72 (.int .i64 (er : Int))) w w4) := by
      unfold Hid
      rw [hw4]
      exact ((((HW1.out.step ((Below.refl _ _).alloc (Nat.le_refl _) _)).drew).put1 _).put2 _).put3 _
    have e1 : w4.cell? ⟨C, 0, none⟩ = some (.slice none 0 0) := oneS_cell HD4.out.s1
    have e2 : w4.cell? ⟨C + 1, 0, none⟩ = some (.int .i64 (at' : Int)) := oneS_cell HD4.out.s2
    have e3 : w4.cell? ⟨C + 1 + 1, 0, none⟩ = some (.iface 72 (.int .i64 (er : Int))) := oneS_cell HD4.out.s3
    have hE := HWD.out (.returned (.tuple #[.slice none 0 0, .int .i64 (at' : Int), .iface 72 (.int .i64 (er : Int))])) w4 ⟨HD4.out.bel, rfl⟩
    clear hw4 HD4 HW1 HWD HK1 HK2 HK3
    simp [Leaves, settle, results, Tryz.results25, go_sem, e1, e2, e3]
    exact hE
  | ok fs j =>
    rw [hqq] at he
    obtain ⟨a, c, rfl, hcc, hF⟩ := he
    have hal := pProg_al (by' T) (by rw [by_len]; exact HT.out) f [] 0 (by simp) (Nat.le_refl _) (Nat.zero_le _)
    rw [← HQ.out, hqq] at hal
    obtain ⟨⟨_, hj⟩, hfw, hfl⟩ := hal
    have hfl4 : fs.length ≤ 4000 := by have := HT.out; rw [by_len] at hj; omega
    have hre : r = match ckn fs T.size with
        | none => .ok fs j
        | some e => .bad e.1 e.2 := by
      have h1 := HR.out
      unfold pRes at h1
      rw [← HQ.out, hqq] at h1
      rw [by_len] at h1
      exact h1
    have k1 := oneS_cell HW1.out.s1
    have k2 := oneS_cell HW1.out.s2
    have k3 := oneS_cell HW1.out.s3
    have m1 := (oneS_row HW1.out.s1).frozen
    have m2 := (oneS_row HW1.out.s2).frozen
    have m3 := (oneS_row HW1.out.s3).frozen
    obtain ⟨w2, hw2⟩ : ∃ w2, w2 = w1.setCell ⟨C, 0, none⟩ (.slice a fs.length c) := ⟨_, rfl⟩
    have HW2 : Hid (PdS C (.slice a fs.length c) (.int .i64 0) .nilIface w w2) := by unfold Hid; rw [hw2]; exact HW1.out.put1 _
    have hCw : C < W0.heap.size := (Array.getElem?_eq_some_iff.1 HW0.out.s1).1
    have hsz2 : w2.heap.size = w1.heap.size := by rw [hw2]; simp [World.setCell]
    have HF2 : Hid (FnR W0.heap.size w2 a fs) := FnR.kept hF (Nat.le_refl _) (fun b hb _ => by rw [hw2]; exact Below.heap_setCell _ _ _ _ (by show b ≠ C; omega))
    have HCN := hid (checkNames_any T fs a c w2 (FnR.kept HF2.out (Nat.zero_le _) (fun _ _ _ => rfl)) hcc.1 hfl4 (fun g hg => (hfw g hg).ok) HT.out)
    have HRE := hid hre
    have HCP := hid hcc
    have HSZ : Hid (C + 1 + 1 < W0.heap.size ∧ w.heap.size ≤ W0.heap.size) := ⟨(Array.getElem?_eq_some_iff.1 HW0.out.s3).1, HW0.out.bel.size⟩
    obtain ⟨n, hn⟩ : ∃ n, n = fs.length := ⟨_, rfl⟩
    have HN := hid hn
    rw [← hn] at HW2 HCN hw2 ⊢
    clear hre hqq hF hb1 hcc hfw hfl hj hfl4 HRD hW0 hC HQ HR hCw hsz2 hn
    go_wp2_with fail
    rw [← hw2]
    clear hw2 k1 k2 k3 m1 m2 m3
    refine HCN.out.mono ?_
    intro e w3 he
    obtain ⟨hb3, he⟩ := he
    have HW3 := hid (HW2.out.step hb3)
    have HF3 : Hid (FnR W0.heap.size w3 a fs) := FnR.kept HF2.out (Nat.le_refl _) (fun b _ hl => hb3.block b hl)
    clear HCN hb3 HF2 HW2 HW1
    cases hck : ckn fs T.size with
    | some y =>
      rw [hck] at he
      have he' : e = pncF y.2 y.1 := he
      subst he'
      have hr2 := HRE.out
      rw [hck] at hr2
      have hr3 : r = .bad y.1 y.2 := hr2
      subst hr3
      have HK1 := oneS_cell HW3.out.s1
      have HK2 := oneS_cell HW3.out.s2
      have HK3 := oneS_cell HW3.out.s3
      refine leaves_cons (f := 44) (args := #[.pointer (some ⟨C, 0, none⟩), .pointer (some ⟨C + 1, 0, none⟩), .pointer (some ⟨C + 1 + 1, 0, none⟩)]) (by simp) (by simp [go_sem]) ?_
      refine (catchS_fault C (C + 1) (C + 1 + 1) y.2 y.1 _ _ _ w3 HK1 HK2 HK3 ((oneS_row HW3.out.s1).frozen 0) ((oneS_row HW3.out.s2).frozen 0) ((oneS_row HW3.out.s3).frozen 0) (by omega) (by omega) (by omega)).mono ?_
      rintro e u' w4 ⟨rfl, rfl, hw4⟩
      have HD4 : Hid (PdS C (.slice none 0 0) (.int .i64 (y.2 : Int)) (.iface 72 (.int .i64 (y.1 : Int))) w w4) := by
        unfold Hid
        rw [hw4]
        exact ((((HW3.out.step ((Below.refl _ _).alloc (Nat.le_refl _) _)).drew).put1 _).put2 _).put3 _
      have e1 : w4.cell? ⟨C, 0, none⟩ = some (.slice none 0 0) := oneS_cell HD4.out.s1
      have e2 : w4.cell? ⟨C + 1, 0, none⟩ = some (.int .i64 (y.2 : Int)) := oneS_cell HD4.out.s2
      have e3 : w4.cell? ⟨C + 1 + 1, 0, none⟩ = some (.iface 72 (.int .i64 (y.1 : Int))) := oneS_cell HD4.out.s3
      have hE := HWD.out (.returned (.tuple #[.slice none 0 0, .int .i64 (y.2 : Int), .iface 72 (.int .i64 (y.1 : Int))])) w4 ⟨HD4.out.bel, rfl⟩
      clear hw4 HD4 HW3 HWD HK1 HK2 HK3
      simp [Leaves, settle, results, Tryz.results25, go_sem, e1, e2, e3]
      exact hE
    | none =>
      rw [hck] at he
      obtain ⟨v, rfl⟩ := he
      have hr2 := HRE.out
      rw [hck] at hr2
      have hr3 : r = .ok fs j := hr2
      subst hr3
      clear hr2 HRE hck
      have k1 := oneS_cell HW3.out.s1
      have k2 := oneS_cell HW3.out.s2
      have k3 := oneS_cell HW3.out.s3
      have m1 := (oneS_row HW3.out.s1).frozen
      have m2 : ∀ i, w3.frozen? ⟨C + 1, i, none⟩ = false := (oneS_row HW3.out.s2).frozen
      have m3 : ∀ i, w3.frozen? ⟨C + 1 + 1, i, none⟩ = false := (oneS_row HW3.out.s3).frozen
      obtain ⟨V, hV⟩ : ∃ V, V = ((w3.setCell ⟨C, 0, none⟩ (.slice a n c)).setCell ⟨C + 1, 0, none⟩ (.int .i64 0)).setCell ⟨C + 1 + 1, 0, none⟩ .nilIface := ⟨_, rfl⟩
      have HD4 : Hid (PdS C (.slice a n c) (.int .i64 0) .nilIface w V) := by unfold Hid; rw [hV]; exact ((HW3.out.put1 _).put2 _).put3 _
      have HFV : Hid (FnR w.heap.size V a fs) := FnR.kept HF3.out HSZ.out.2 (fun b hb _ => by
        have := HSZ.out.1
        rw [hV, Below.heap_setCell _ _ _ _ (by show b ≠ C + 1 + 1; omega), Below.heap_setCell _ _ _ _ (by show b ≠ C + 1; omega), Below.heap_setCell _ _ _ _ (by show b ≠ C; omega)])
      go_wp2_with fail
      rw [← hV]
      refine leaves_cons (f := 44) (args := #[.pointer (some ⟨C, 0, none⟩), .pointer (some ⟨C + 1, 0, none⟩), .pointer (some ⟨C + 1 + 1, 0, none⟩)]) (by simp) (by simp [go_sem]) ?_
      refine (catchS_idle ⟨C, 0, none⟩ ⟨C + 1, 0, none⟩ ⟨C + 1 + 1, 0, none⟩ V).mono ?_
      rintro e u' w4 ⟨rfl, rfl, hw4⟩
      rw [hw4]
      have e1 : V.cell? ⟨C, 0, none⟩ = some (.slice a n c) := oneS_cell HD4.out.s1
      have e2 : V.cell? ⟨C + 1, 0, none⟩ = some (.int .i64 0) := oneS_cell HD4.out.s2
      have e3 : V.cell? ⟨C + 1 + 1, 0, none⟩ = some .nilIface := oneS_cell HD4.out.s3
      have hE := HWD.out (.returned (.tuple #[.slice a n c, .int .i64 0, .nilIface])) V ⟨HD4.out.bel, a, c, by rw [HN.out], HCP.out, HFV.out⟩
      clear hV hw4 HD4 HW3 HWD k1 k2 k3 m1 m2 m3 HFV HF3
      simp [Leaves, settle, results, Tryz.results25, go_sem, e1, e2, e3]
      exact hE

end Go.Proofs.YtlgcmeachjjmgajGreatDoor

namespace Go.Proofs.YtlgcmeachjjmgajGreatDoor
open Go.RowKit

/-- the numbers of the first k functions, by their names -/
def nmM (fs : List FnT) : Nat → List UInt8 → Option Int
  | 0 => fun _ => none
  | k + 1 => match fs[k]? with
    | some g => updI (nmM fs k) g.name (k : Int)
    | none => nmM fs k
/-- a program in memory, from a block on -/
def PgAt (lo : Nat) (w : World) (p : Nat) (fs : List FnT) : Prop := ∃ a c B, w.heap[p]? = some (.cells #[.slice a fs.length c, .map (some B)] 84 (0, 0)) ∧ lo ≤ p ∧ lo ≤ B ∧ (fs.length ≤ c ∧ c ≤ maxLen) ∧ FnR lo w a fs ∧ MapI nmk (fun x => x.length ≤ 4000) w B (nmM fs fs.length)
/-- how Parse ends -/
def PaR (w : World) (len : Nat) (r : Res (List FnT)) (e : Ending) (w' : World) : Prop := Below w.heap.size w w' ∧
  if 4000 < len then e = .returned (.tuple #[.pointer none, .int .i64 0, .iface 72 (.int .i64 9)])
  else match r with
  | .ok fs _ => (∃ p, e = .returned (.tuple #[.pointer (some ⟨p, 0, none⟩), .int .i64 0, .nilIface]) ∧ PgAt w.heap.size w' p fs) ∧ (∀ g, g ∈ fs → FW g) ∧ fs.length ≤ 4000
  | .bad er at' => e = .returned (.tuple #[.pointer none, .int .i64 (at' : Int), .iface 72 (.int .i64 (er : Int))])
  | .out => False
theorem neE (T : TypeId) (v : Value) (w : World) : (binOp BinOp.neq 28 (.iface T v) .nilIface).run Tryz.prog w = .ok (.bool true) w := by kernel_rfl
theorem neN (w : World) : (binOp BinOp.neq 28 .nilIface .nilIface).run Tryz.prog w = .ok (.bool false) w := by kernel_rfl
theorem pRes_ok {L : List UInt8} {f j : Nat} {fs : List FnT} (h : pRes L f = .ok fs j) (hL : L.length ≤ 4000) : (∀ g, g ∈ fs → FW g) ∧ fs.length ≤ 4000 := by
  have hal := pProg_al L hL f [] 0 (by simp) (Nat.le_refl _) (Nat.zero_le _)
  unfold pRes at h
  cases hq : pProg L f [] 0 with
  | out => rw [hq] at h; cases h
  | bad e a => rw [hq] at h; cases h
  | ok gs k =>
    rw [hq] at h hal
    obtain ⟨⟨_, hk⟩, h1, h2⟩ := hal
    cases hc : ckn gs L.length with
    | some y => simp [hc] at h
    | none =>
      simp [hc] at h
      obtain ⟨rfl, rfl⟩ := h
      exact ⟨h1, by omega⟩

set_option maxRecDepth 100000 in
set_option maxHeartbeats 2000000 in
theorem parse_any (T : ByteArray) (f : Nat) (w : World) (hTm : T.size ≤ 281474976710656) (hEv : EvW w) (r : Res (List FnT)) (hr : r = pRes (by' T) f) (hro : r ≠ .out) :
    Calls Tryz.prog 8 #[.string T] w (PaR w T.size r) := by
  have hmm := @run_makeMap Tryz.prog
  have hne := neE
  have hnn := neN
  have HWD : Hid (∀ e w', PaR w T.size r e w' → PaR w T.size r e w') := fun _ _ h => h
  by_cases h4 : 4000 < T.size
  · have q4 : (4000 : Int) < (T.size : Int) := by omega
    have HQ4 := hid h4
    clear h4 hr hro hEv
    go_enter Tryz.func8, Tryz.ntmps8
    go_wp2_with fail
    go_ret3
    exact ⟨Below.refl _ _, by rw [if_pos HQ4.out]; rfl⟩
  · have q4 : ¬ (4000 : Int) < (T.size : Int) := by omega
    have HQ4 := hid h4
    have HPD := hid (parsed_any T f w (by omega) hEv r hr hro)
    have HR := hid hr
    clear h4 hr hro hEv
    cases hrr : r with
    | out =>
      rw [hrr] at HPD
      go_enter Tryz.func8, Tryz.ntmps8
      go_wp2_with fail
      refine HPD.out.mono ?_
      rintro e w1 ⟨_, h⟩
      exact h.elim
    | bad er at' =>
      rw [hrr] at HPD
      go_enter Tryz.func8, Tryz.ntmps8
      go_wp2_with fail
      refine HPD.out.mono ?_
      rintro e w1 ⟨hb, rfl⟩
      have HB := hid hb
      clear hb HPD hrr HWD HR
      go_wp2_with fail
      go_ret3
      exact ⟨HB.out, by rw [if_neg HQ4.out]; rfl⟩
    | ok fs j =>
      rw [hrr] at HPD
      have hfw := pRes_ok (HR.out.symm.trans hrr) (by rw [by_len]; have := HQ4.out; omega)
      have HFW := hid hfw
      obtain ⟨n, hn⟩ : ∃ n, n = fs.length := ⟨_, rfl⟩
      have HN := hid hn
      have hn4 : n ≤ 4000 := by have := hfw.2; omega
      clear hrr HWD HR hfw hn
      go_enter Tryz.func8, Tryz.ntmps8
      go_wp2_with fail
      refine HPD.out.mono ?_
      rintro e w1 ⟨hb, a, c, rfl, hcc, hF⟩
      have HB1 := hid hb
      have HF1 := hid hF
      have HCC := hid hcc
      rw [← HN.out]
      clear hb HPD hF hcc
      go_wp2_with fail
      have HM0 : Hid (MapI nmk (fun x => x.length ≤ 4000) (w1.alloc (.map #[] 0)) w1.heap.size (nmM fs 0)) := MapI.new w1
      have HB0 : Hid (Below w1.heap.size w1 (w1.alloc (.map #[] 0))) := (Below.refl _ w1).alloc (Nat.le_refl _) _
      generalize w1.alloc (.map #[] 0) = W0 at *
      go_loopw [28] (fun iv wr => ∃ (k : Nat), k ≤ n ∧ iv = .int .i64 k ∧ Hid (MapI nmk (fun x => x.length ≤ 4000) wr w1.heap.size (nmM fs k)) ∧ Hid (Below w1.heap.size w1 wr)) (fun iv _ => n - (intOf iv).toNat)
      case atStart => exact ⟨0, Nat.zero_le _, rfl, HM0, HB0⟩
      case round =>
        obtain ⟨k, hk, rfl, hM, hbel⟩ := hrel
        by_cases hlt : k < n
        · have hlt2 : (k : Int) < (n : Int) := by omega
          have hks : IntKind.i64.wrap ((k : Int) + 1) = (k : Int) + 1 := by rw [IntKind.wrap_i64]; omega
          obtain ⟨g, hg⟩ : ∃ g, fs[k]? = some g := ⟨_, List.getElem?_eq_getElem (by have := HN.out; omega)⟩
          obtain ⟨kb, a2, c2, b, rfl, _, d0, d1, d2, d3, _⟩ := HF1.out k g hg
          have c0 := (hbel.out.cell (p := ⟨kb, k * 4, none⟩) (World.block_lt_of_cell? _ _ d0)).trans d0
          have c1 := (hbel.out.cell (p := ⟨kb, k * 4 + 1, none⟩) (World.block_lt_of_cell? _ _ d1)).trans d1
          have c2' := (hbel.out.cell (p := ⟨kb, k * 4 + 2, none⟩) (World.block_lt_of_cell? _ _ d2)).trans d2
          have c3 := (hbel.out.cell (p := ⟨kb, k * 4 + 3, none⟩) (World.block_lt_of_cell? _ _ d3)).trans d3
          have HFO := hid ((HFW.out.1 g (List.mem_of_getElem? hg)).ok)
          have HG := hid hg
          clear d0 d1 d2 d3 hg
          go_wp2_with (refine wpList_updateI namK _ rfl _ _ _ rfl w1.heap.size (nmM fs k) rfl ?_ g.name (k : Int) rfl rfl HFO.out.1 ?_)
          · exact hM.out.below ((Below.refl _ wr).alloc (Nat.le_refl _) _)
          · intro w' hM' hgb
            have HM' : Hid (MapI nmk (fun x => x.length ≤ 4000) w' w1.heap.size (nmM fs (k + 1))) := by unfold Hid; rw [nmM, HG.out]; exact hM'
            have HB' : Hid (Below w1.heap.size w1 w') := gb_belS (hbel.out.trans (((Below.refl _ wr).alloc (Nat.le_refl _) _).mono hbel.out.size)) hgb (Nat.le_refl _) rfl
            clear hM' hgb hM hbel c0 c1 c2' c3
            go_wp2_with fail
            go_roundw
            case rel => exact ⟨k + 1, by omega, by go_num, HM', HB'⟩
            case measure => simp [intOf]; omega
        · obtain rfl : k = n := by omega
          have hlt2 : ¬ (k : Int) < (k : Int) := by omega
          go_wp2_with fail
          go_ret3
          have hbA : Below wr.heap.size wr (wr.alloc (.cells #[.slice a k c, .map (some w1.heap.size)] 84)) := (Below.refl _ _).alloc (Nat.le_refl _) _
          have hb1 := hbel.out.trans (hbA.mono hbel.out.size)
          refine ⟨HB1.out.trans (hb1.mono HB1.out.size), ?_⟩
          rw [if_neg HQ4.out]
          refine ⟨⟨wr.heap.size, rfl, a, c, w1.heap.size, ?_, ?_, HB1.out.size, HCC.out, ?_, ?_⟩, HFW.out⟩
          · rw [← HN.out]; exact heap_alloc_new wr _
          · exact Nat.le_trans HB1.out.size hbel.out.size
          · exact FnR.kept HF1.out (Nat.le_refl _) (fun b _ hl => hb1.block b hl)
          · rw [← HN.out]; exact hM.out.below hbA

end Go.Proofs.YtlgcmeachjjmgajGreatDoor

namespace Go.Proofs.YtlgcmeachjjmgajGreatDoor
open Go.RowKit

set_option maxRecDepth 100000 in
set_option maxHeartbeats 2000000 in
theorem function_at (p i n c kb B : Nat) (fs : List FnT) (nm : List UInt8) (g : FnT) (a2 : Option Addr) (c2 b : Nat) (w : World) (p0 : w.cell? ⟨p, 0, none⟩ = some (.slice (some ⟨kb, 0, none⟩) n c)) (p1 : w.cell? ⟨p, 1, none⟩ = some (.map (some B))) (hil : i < n) (hM : MapI nmk (fun x => x.length ≤ 4000) w B (nmM fs fs.length)) (hi : nmM fs fs.length nm = some (i : Int)) (hnm : nm.length ≤ 4000)
    (d0 : w.cell? ⟨kb, i * 4, none⟩ = some (.string (bs g.name))) (d1 : w.cell? ⟨kb, i * 4 + 1, none⟩ = some (.int .i64 (g.at' : Int))) (d2 : w.cell? ⟨kb, i * 4 + 2, none⟩ = some (.slice a2 g.more.length c2)) (d3 : w.cell? ⟨kb, i * 4 + 3, none⟩ = some (.pointer (some ⟨b, 0, none⟩))) :
    Calls Tryz.prog 56 #[.pointer (some ⟨p, 0, none⟩), .string (bs nm)] w fun e w' => e = .returned (.agg #[.string (bs g.name), .int .i64 (g.at' : Int), .slice a2 g.more.length c2, .pointer (some ⟨b, 0, none⟩)]) ∧ Below w.heap.size w w' := by
  have hil2 : (i : Int) < (n : Int) := by omega
  have hi0 : (0 : Int) ≤ (i : Int) := by omega
  have HS : Hid (∀ W, Below w.heap.size w W → W.cell? ⟨p, 0, none⟩ = some (.slice (some ⟨kb, 0, none⟩) n c) ∧ W.cell? ⟨p, 1, none⟩ = some (.map (some B)) ∧ W.cell? ⟨kb, i * 4, none⟩ = some (.string (bs g.name)) ∧ W.cell? ⟨kb, i * 4 + 1, none⟩ = some (.int .i64 (g.at' : Int)) ∧ W.cell? ⟨kb, i * 4 + 2, none⟩ = some (.slice a2 g.more.length c2) ∧ W.cell? ⟨kb, i * 4 + 3, none⟩ = some (.pointer (some ⟨b, 0, none⟩)) ∧
      (Instr.lookup 76 (.map (some B)) (.string (bs nm)) false).run Tryz.prog W = .ok (.int .i64 (i : Int)) W) := fun W hb => by
    refine ⟨(hb.cell (p := ⟨p, 0, none⟩) (World.block_lt_of_cell? _ _ p0)).trans p0, (hb.cell (p := ⟨p, 1, none⟩) (World.block_lt_of_cell? _ _ p1)).trans p1, (hb.cell (p := ⟨kb, i * 4, none⟩) (World.block_lt_of_cell? _ _ d0)).trans d0, (hb.cell (p := ⟨kb, i * 4 + 1, none⟩) (World.block_lt_of_cell? _ _ d1)).trans d1, (hb.cell (p := ⟨kb, i * 4 + 2, none⟩) (World.block_lt_of_cell? _ _ d2)).trans d2, (hb.cell (p := ⟨kb, i * 4 + 3, none⟩) (World.block_lt_of_cell? _ _ d3)).trans d3, ?_⟩
    have h1 := (hM.below hb).lookup namK (x := nm) hnm false
    rw [hi] at h1
    exact h1
  have HB0 : Hid (Below w.heap.size w (w.alloc (.cells #[.string ⟨#[]⟩, .int .i64 0, .slice none 0 0, .pointer none] 82))) := (Below.refl _ w).alloc (Nat.le_refl _) _
  clear hM d0 d1 d2 d3 p0 p1 hi hnm
  go_enter Tryz.func56, Tryz.ntmps56
  go_wp2_with fail
  refine wp_region_held_drew (S := (fun W => Below w.heap.size w W)) (by kernel_rfl) (HB0.out.trans ⟨rfl, rfl, rfl, Nat.le_refl _, fun _ _ => rfl⟩) (fun hHeld => ?_)
  refine wpAnyH_takeS (i := 0) (v := .pointer (some ⟨p, 0, none⟩)) rfl (by kernel_rfl) (by kernel_rfl) (by kernel_rfl) (fun _ _ _ h => h) (by rfl) (fun W hC => by go_simp) hHeld ?_
  simp only [Act.put, List.setIfInBounds_toArray, List.set_cons_zero, List.set_cons_succ]
  refine wpAnyH_takeS (i := 1) (v := .pointer (some ⟨p, 0, none⟩)) rfl (by kernel_rfl) (by kernel_rfl) (by kernel_rfl) (fun _ _ _ h => h) (by rfl) (fun W hC => by go_simp) hHeld ?_
  simp only [Act.put, List.setIfInBounds_toArray, List.set_cons_zero, List.set_cons_succ]
  refine wpAnyH_takeS (i := 2) (v := .pointer (some ⟨p, 0, none⟩)) rfl (by kernel_rfl) (by kernel_rfl) (by kernel_rfl) (fun _ _ _ h => h) (by rfl) (fun W hC => by go_simp) hHeld ?_
  simp only [Act.put, List.setIfInBounds_toArray, List.set_cons_zero, List.set_cons_succ]
  refine wpAnyH_takeS (i := 3) (v := .slice (some ⟨kb, 0, none⟩) n c) rfl (by kernel_rfl) (by kernel_rfl) (by kernel_rfl) (fun _ _ _ h => h) (by rfl) (fun W hC => by (obtain ⟨y0, y1, y2, y3, y4, y5, y6⟩ := HS.out W hC); go_simp) hHeld ?_
  simp only [Act.put, List.setIfInBounds_toArray, List.set_cons_zero, List.set_cons_succ]
  refine wpAnyH_takeS (i := 4) (v := .pointer (some ⟨p, 0, none⟩)) rfl (by kernel_rfl) (by kernel_rfl) (by kernel_rfl) (fun _ _ _ h => h) (by rfl) (fun W hC => by go_simp) hHeld ?_
  simp only [Act.put, List.setIfInBounds_toArray, List.set_cons_zero, List.set_cons_succ]
  refine wpAnyH_takeS (i := 5) (v := .pointer (some ⟨p, 0, none⟩)) rfl (by kernel_rfl) (by kernel_rfl) (by kernel_rfl) (fun _ _ _ h => h) (by rfl) (fun W hC => by go_simp) hHeld ?_
  simp only [Act.put, List.setIfInBounds_toArray, List.set_cons_zero, List.set_cons_succ]
  refine wpAnyH_takeS (i := 6) (v := .pointer (some ⟨p, 1, none⟩)) rfl (by kernel_rfl) (by kernel_rfl) (by kernel_rfl) (fun _ _ _ h => h) (by rfl) (fun W hC => by go_simp) hHeld ?_
  simp only [Act.put, List.setIfInBounds_toArray, List.set_cons_zero, List.set_cons_succ]
  refine wpAnyH_takeS (i := 7) (v := .map (some B)) rfl (by kernel_rfl) (by kernel_rfl) (by kernel_rfl) (fun _ _ _ h => h) (by rfl) (fun W hC => by (obtain ⟨y0, y1, y2, y3, y4, y5, y6⟩ := HS.out W hC); go_simp) hHeld ?_
  simp only [Act.put, List.setIfInBounds_toArray, List.set_cons_zero, List.set_cons_succ]
  refine wpAnyH_takeS (i := 8) (v := .string (bs nm)) rfl (by kernel_rfl) (by kernel_rfl) (by kernel_rfl) (fun _ _ _ h => h) (by rfl) (fun W hC => by go_simp) hHeld ?_
  simp only [Act.put, List.setIfInBounds_toArray, List.set_cons_zero, List.set_cons_succ]
  refine wpAnyH_takeS (i := 9) (v := .int .i64 (i : Int)) rfl (by kernel_rfl) (by kernel_rfl) (by kernel_rfl) (fun _ _ _ h => h) (by rfl) (fun W hC => by (obtain ⟨y0, y1, y2, y3, y4, y5, y6⟩ := HS.out W hC); go_simp) hHeld ?_
  simp only [Act.put, List.setIfInBounds_toArray, List.set_cons_zero, List.set_cons_succ]
  refine wpAnyH_takeS (i := 10) (v := .pointer (some ⟨kb, i * 4, none⟩)) rfl (by kernel_rfl) (by kernel_rfl) (by kernel_rfl) (fun _ _ _ h => h) (by rfl) (fun W hC => by go_simp) hHeld ?_
  simp only [Act.put, List.setIfInBounds_toArray, List.set_cons_zero, List.set_cons_succ]
  refine wpAnyH_takeS (i := 11) (v := .agg #[.string (bs g.name), .int .i64 (g.at' : Int), .slice a2 g.more.length c2, .pointer (some ⟨b, 0, none⟩)]) rfl (by kernel_rfl) (by kernel_rfl) (by kernel_rfl) (fun _ _ _ h => h) (by rfl) (fun W hC => by (obtain ⟨y0, y1, y2, y3, y4, y5, y6⟩ := HS.out W hC); go_simp) hHeld ?_
  simp only [Act.put, List.setIfInBounds_toArray, List.set_cons_zero, List.set_cons_succ]
  refine wpAnyH_ready (rs := [12]) (by kernel_rfl) (by simp) ?_
  refine AllReadyH.consS rfl (fun K hK => ?_) AllReadyH.nil
  go_simp
  have hb1 : Below w.heap.size w (w.alloc (.cells #[.string (bs g.name), .int .i64 (g.at' : Int), .slice a2 g.more.length c2, .pointer (some ⟨b, 0, none⟩)] 82)).drew := ((Below.refl _ w).alloc (Nat.le_refl _) _).trans ⟨rfl, rfl, rfl, Nat.le_refl _, fun _ _ => rfl⟩
  refine hK.out _ _ hb1 (fun hHeld => ?_)
  clear hK K
  refine wpAnyH_done (by kernel_rfl) ?_ _
  go_wp2_with fail
  refine bodyPost_ret (results_cell_row rfl _ _ w.heap.size 82 _ (0, 0) _ rfl (heap_alloc_new w _) Tryz.underlying82 rfl (by kernel_rfl)) rfl ?_
  exact ⟨rfl, hb1⟩

theorem function_any (lo p i : Nat) (fs : List FnT) (nm : List UInt8) (g : FnT) (w : World) (hP : PgAt lo w p fs) (hi : nmM fs fs.length nm = some (i : Int)) (hg : fs[i]? = some g) (hnm : nm.length ≤ 4000) :
    Calls Tryz.prog 56 #[.pointer (some ⟨p, 0, none⟩), .string (bs nm)] w fun e w' => ∃ a2 c b, e = .returned (.agg #[.string (bs g.name), .int .i64 (g.at' : Int), .slice a2 g.more.length c, .pointer (some ⟨b, 0, none⟩)]) ∧ NmR lo w a2 g.more ∧ PT lo w g.body (.pointer (some ⟨b, 0, none⟩)) ∧ Below w.heap.size w w' := by
  obtain ⟨a, c, B, hp, _, _, hcc, hF, hM⟩ := hP
  have hil : i < fs.length := (List.getElem?_eq_some_iff.1 hg).1
  obtain ⟨kb, a2, c2, b, rfl, _, d0, d1, d2, d3, d4, d5⟩ := hF i g hg
  have p0 : w.cell? ⟨p, 0, none⟩ = some (.slice (some ⟨kb, 0, none⟩) fs.length c) := by simp [World.cell?, hp]
  have p1 : w.cell? ⟨p, 1, none⟩ = some (.map (some B)) := by simp [World.cell?, hp]
  refine (function_at p i fs.length c kb B fs nm g a2 c2 b w p0 p1 hil hM hi hnm d0 d1 d2 d3).mono ?_
  rintro e w1 ⟨rfl, hb⟩
  exact ⟨a2, c2, b, rfl, d4, d5, hb⟩

theorem fld_more (a b c d : Value) (w : World) : (Instr.field 82 (.agg #[a, b, c, d]) 1).run Tryz.prog w = .ok c w := by kernel_rfl
theorem mainS : (⟨#[109, 97, 105, 110]⟩ : ByteArray) = bs mainW := by
  apply ByteArray.ext
  rfl
set_option maxRecDepth 100000 in
set_option maxHeartbeats 1000000 in
theorem args_any (lo p i : Nat) (fs : List FnT) (g : FnT) (w : World) (hP : PgAt lo w p fs) (hi : nmM fs fs.length mainW = some (i : Int)) (hg : fs[i]? = some g) :
    Calls Tryz.prog 30 #[.pointer (some ⟨p, 0, none⟩)] w fun e w' => e = .returned (.int .i64 (g.more.length : Int)) ∧ Below w.heap.size w w' := by
  have HF := hid (function_any lo p i fs mainW g w hP hi hg (by decide))
  rw [← mainS] at HF
  have hfl := fld_more
  clear hP hi hg
  go_enter Tryz.func30, Tryz.ntmps30
  go_wp2_with fail
  refine HF.out.mono ?_
  rintro e w1 ⟨a2, c, b, rfl, _, _, hb⟩
  have HB := hid hb
  clear hb HF
  go_wp2_with fail
  go_ret
  exact ⟨rfl, HB.out⟩

end Go.Proofs.YtlgcmeachjjmgajGreatDoor

namespace Go.Proofs.YtlgcmeachjjmgajGreatDoor
open Go.RowKit

/-- names of functions, one after another; the first k of them alone -/
def nmV (fs : List FnT) (k : Nat) (i : Nat) : Value := .string (if i < k then bs (match fs[i]? with | some g => g.name | none => []) else ⟨#[]⟩)

end Go.Proofs.YtlgcmeachjjmgajGreatDoor

namespace Go.Proofs.YtlgcmeachjjmgajGreatDoor
open Go.RowKit

/-- a value and how many parts were looked at; or an end -/
inductive ER (α : Type) where
  | val (x : α) (k : Nat)
  | stop (er : Nat)
  | out
def ER.bind {α β : Type} (r : ER α) (f : α → Nat → ER β) : ER β := match r with
  | .val x k => f x k
  | .stop er => .stop er
  | .out => .out
/-- the function of a name -/
def fnOf (fs : List FnT) (nm : List UInt8) : Option FnT := match nmM fs fs.length nm with
  | some i => fs[i.toNat]?
  | none => none
/-- what parts come to, one after another, under names -/
def evA (f : Tr → Nat → ER Int) : List (List UInt8 × Nat) → List Tr → List (List UInt8 × Int) → Nat → ER (List (List UInt8 × Int))
  | [], _, own, k => .val own k
  | x :: r, t :: ts, own, k => (f t k).bind fun v k2 => evA f r ts ((x.1, v) :: own) k2
  | _ :: _, [], _, _ => .out
/-- what a sign makes of two numbers; 0: it is stuck -/
def rknS (p : Nat) (kd : Nat) (a b : Int) (k : Nat) : ER Int :=
  if kd = 4 then .val ((a + b) % (p : Int)) k else if kd = 5 then .val ((a - b) % (p : Int)) k else if kd = 6 then .val (a * b % (p : Int)) k
  else if kd = 7 then (if b = 0 then .stop 7 else .val (a * (invn p b : Int) % (p : Int)) k) else .val (if a = b then 1 else 0) k
/-- what an expression comes to -/
def evl (p : Nat) (fs : List FnT) (fuel : Nat) : Nat → Tr → List (List UInt8 × Int) → Nat → ER Int
  | 0, _, _, _ => .out
  | R + 1, .node kd nm _ n kids, sc, k =>
    if k = fuel then .stop 8 else
    if kd = 0 then .val ((n : Int) % (p : Int)) (k + 1)
    else if kd = 1 then (match sc.find? (fun x => x.1 == nm) with | some x => .val x.2 (k + 1) | none => .out)
    else if kd = 2 then (match fnOf fs nm with
      | some g => (evA (fun t k => evl p fs fuel R t sc k) g.more kids [] (k + 1)).bind fun own k2 => evl p fs fuel R g.body own k2
      | none => .out)
    else match kids with
      | [a] => if kd = 3 then (evl p fs fuel R a sc (k + 1)).bind fun x k2 => .val ((0 - x) % (p : Int)) k2 else .out
      | [a, b] => if kd = 9 then (evl p fs fuel R a sc (k + 1)).bind fun x k2 => evl p fs fuel R b ((nm, x) :: sc) k2
        else (evl p fs fuel R a sc (k + 1)).bind fun x k2 => (evl p fs fuel R b sc k2).bind fun y k3 => rknS p kd x y k3
      | [a, b, c] => if kd = 10 then (evl p fs fuel R a sc (k + 1)).bind fun x k2 => (evl p fs fuel R b sc k2).bind fun y k3 => if x = y then evl p fs fuel R c sc k3 else .stop 7
        else if kd = 11 then (evl p fs fuel R a sc (k + 1)).bind fun x k2 => if x = 0 then evl p fs fuel R c sc k2 else evl p fs fuel R b sc k2 else .out
      | _ => .out

/-- an end of a program -/
def pncE (er : Nat) : Ending := .panicked [{ v := .iface 145 (.agg #[.int .i64 (er : Int)]), recovered := false }]
/-- a program at work, in memory -/
def EvAt (w : World) (V fb pg k fuel : Nat) : Prop := w.heap[V]? = some (.cells #[.pointer (some ⟨fb, 0, none⟩), .pointer (some ⟨pg, 0, none⟩), .int .i64 (k : Int), .int .i64 (fuel : Int)] 96 (0, 0))
/-- how a part of the work ends -/
def EvP {α : Type} (enc : α → Value) (V fb pg fuel : Nat) (w : World) (r : ER α) (e : Ending) (w' : World) : Prop := Fr V w w' ∧ match r with
  | .val x k => e = .returned (enc x) ∧ EvAt w' V fb pg k fuel
  | .stop er => e = pncE er
  | .out => False

theorem EvAt.lt {w : World} {V fb pg k fuel : Nat} (h : EvAt w V fb pg k fuel) : V < w.heap.size := (Array.getElem?_eq_some_iff.1 h).1
theorem EvAt.set {w : World} {V fb pg k fuel : Nat} (h : EvAt w V fb pg k fuel) (j : Nat) : EvAt (w.setCell ⟨V, 2, none⟩ (.int .i64 (j : Int))) V fb pg j fuel :=
  heap_setCell_same _ V 2 _ _ _ h
theorem frN (V n : Nat) (w : World) : Fr V w (w.drewN n) := ⟨⟨rfl, rfl, rfl, Nat.le_refl _, fun _ _ => rfl⟩, fun _ _ _ => rfl⟩

set_option maxRecDepth 100000 in
set_option maxHeartbeats 1000000 in
theorem must_any (x : Bool) (w : World) : Calls Tryz.prog 96 #[.bool x] w fun e w' => w' = w ∧ e = if x then .returned (.tuple #[]) else pncE 7 := by
  have hnot : ∀ (x : Bool) (w : World), (Op.unary .not (.bool x)).run Tryz.prog w = .ok (.bool (!x)) w := fun _ _ => rfl
  cases x with
  | true =>
    go_enter Tryz.func96, Tryz.ntmps96
    go_wp2_with fail
    go_end0
    exact ⟨rfl, rfl⟩
  | false =>
    go_enter Tryz.func96, Tryz.ntmps96
    go_wp2_with fail
    exact ⟨rfl, rfl, rfl⟩

set_option maxRecDepth 100000 in
set_option maxHeartbeats 1000000 in
theorem look_any (V fb pg k fuel : Nat) (w : World) (h : EvAt w V fb pg k fuel) (hf : fuel ≤ 1000000) (hk : k ≤ fuel) :
    Calls Tryz.prog 91 #[.pointer (some ⟨V, 0, none⟩)] w (EvP (fun _ : Unit => .tuple #[]) V fb pg fuel w (if k = fuel then .stop 8 else .val () (k + 1))) := by
  have c2 : w.cell? ⟨V, 2, none⟩ = some (.int .i64 (k : Int)) := by simp [World.cell?, show w.heap[V]? = _ from h]
  have c3 : w.cell? ⟨V, 3, none⟩ = some (.int .i64 (fuel : Int)) := by simp [World.cell?, show w.heap[V]? = _ from h]
  have cf := frozen_of_row w V 2 _ _ h
  have HE := hid h
  clear h
  by_cases e : k = fuel
  · rw [if_pos e]
    have q : ((k : Int) == (fuel : Int)) = true := by rw [e]; simp
    have HQ := hid e
    clear e
    go_enter Tryz.func91, Tryz.ntmps91
    go_wp2_with fail
    go_quiet (fail)
    go_wp2_with fail
    exact ⟨rfl, frN _ _ _, rfl⟩
  · rw [if_neg e]
    have q : ((k : Int) == (fuel : Int)) = false := by simp; omega
    have hw : IntKind.i64.wrap ((k : Int) + 1) = (k : Int) + 1 := by rw [IntKind.wrap_i64]; omega
    have HQ := hid e
    clear e
    go_enter Tryz.func91, Tryz.ntmps91
    go_wp2_with fail
    go_quiet (fail)
    go_wp2_with fail
    go_end0
    refine ⟨(frN _ _ _).set 2 _, rfl, ?_⟩
    have := EvAt.set (show EvAt (w.drewN nq) V fb pg k fuel from HE.out) (k + 1)
    simpa using this

end Go.Proofs.YtlgcmeachjjmgajGreatDoor

namespace Go.Proofs.YtlgcmeachjjmgajGreatDoor
open Go.RowKit

/-- names that stand for elements -/
def ScB (p : Nat) (sc : List (List UInt8 × Int)) : Prop := ∀ y, y ∈ sc → 0 ≤ y.2 ∧ y.2 < (p : Int)
theorem ER.bind_ne {α β : Type} {r : ER α} {f : α → Nat → ER β} (h : r.bind f ≠ .out) : r ≠ .out := fun e => h (by rw [e]; rfl)
theorem ER.bind_val {α β : Type} {r : ER α} {f : α → Nat → ER β} {y : β} {j : Nat} (h : r.bind f = .val y j) : ∃ x k, r = .val x k ∧ f x k = .val y j := by
  cases r with
  | val x k => exact ⟨x, k, rfl, h⟩
  | stop e => cases h
  | out => cases h
theorem rknS_bd {p kd k j : Nat} {a b x : Int} (h3 : 3 ≤ p) (h : rknS p kd a b k = .val x j) : (0 ≤ x ∧ x < (p : Int)) ∧ j = k := by
  have hm : ∀ z : Int, 0 ≤ z % (p : Int) ∧ z % (p : Int) < (p : Int) := fun z => ⟨Int.emod_nonneg _ (by omega), Int.emod_lt_of_pos _ (by omega)⟩
  unfold rknS at h
  repeat' split at h
  all_goals (first | (cases h; done) | (injection h with h1 h2; subst h1 h2; first | exact ⟨hm _, rfl⟩ | exact ⟨by omega, rfl⟩))
/-- what an expression comes to is an element, and more parts were looked at -/
theorem evl_bd (p : Nat) (fs : List FnT) (fuel : Nat) (h3 : 3 ≤ p) : ∀ (R : Nat) (t : Tr) (sc : List (List UInt8 × Int)) (k : Nat) (x : Int) (j : Nat), ScB p sc → k ≤ fuel → evl p fs fuel R t sc k = .val x j → (0 ≤ x ∧ x < (p : Int)) ∧ k < j ∧ j ≤ fuel
  | 0, _, _, _, _, _, _, _, h => by rw [evl] at h; cases h
  | R + 1, .node kd nm at' n kids, sc, k, x, j, hs, hk, h => by
    have ih := evl_bd p fs fuel h3 R
    have hm : ∀ z : Int, 0 ≤ z % (p : Int) ∧ z % (p : Int) < (p : Int) := fun z => ⟨Int.emod_nonneg _ (by omega), Int.emod_lt_of_pos _ (by omega)⟩
    have hA : ∀ (more : List (List UInt8 × Nat)) (ts : List Tr) (own : List (List UInt8 × Int)) (k : Nat) (ys : List (List UInt8 × Int)) (j : Nat), ScB p own → k ≤ fuel → evA (fun t k => evl p fs fuel R t sc k) more ts own k = .val ys j → ScB p ys ∧ k ≤ j ∧ j ≤ fuel := by
      intro more
      induction more with
      | nil => intro ts own k ys j ho hk h; rw [evA] at h; injection h with h1 h2; subst h1 h2; exact ⟨ho, Nat.le_refl _, hk⟩
      | cons m r ihm =>
        intro ts own k ys j ho hk h
        cases ts with
        | nil => rw [evA] at h; cases h
        | cons t ts =>
          rw [evA] at h
          obtain ⟨v, k2, e1, e2⟩ := ER.bind_val h
          obtain ⟨b1, b2, b3⟩ := ih t sc k v k2 hs hk e1
          obtain ⟨c1, c2, c3⟩ := ihm ts _ k2 ys j (fun y hy => by
            rcases List.mem_cons.1 hy with rfl | hy
            · exact b1
            · exact ho y hy) b3 e2
          exact ⟨c1, by omega, c3⟩
    unfold evl at h
    split at h
    · cases h
    · rename_i hkf
      have hk1 : k + 1 ≤ fuel := by omega
      split at h
      · injection h with h1 h2; subst h1 h2; exact ⟨hm _, by omega, hk1⟩
      · split at h
        · split at h
          · rename_i y hy
            injection h with h1 h2; subst h1 h2
            exact ⟨hs y (List.mem_of_find?_eq_some hy), by omega, hk1⟩
          · cases h
        · split at h
          · split at h
            · rename_i g _
              obtain ⟨own, k2, e1, e2⟩ := ER.bind_val h
              obtain ⟨a1, a2, a3⟩ := hA _ _ _ _ _ _ (by intro y hy; cases hy) hk1 e1
              obtain ⟨b1, b2, b3⟩ := ih _ own k2 x j a1 a3 e2
              exact ⟨b1, by omega, b3⟩
            · cases h
          · split at h
            · split at h
              · obtain ⟨y, k2, e1, e2⟩ := ER.bind_val h
                obtain ⟨b1, b2, b3⟩ := ih _ sc _ y k2 hs hk1 e1
                injection e2 with h1 h2; subst h1 h2
                exact ⟨hm _, by omega, b3⟩
              · cases h
            · split at h
              · obtain ⟨y, k2, e1, e2⟩ := ER.bind_val h
                obtain ⟨b1, b2, b3⟩ := ih _ sc _ y k2 hs hk1 e1
                obtain ⟨c1, c2, c3⟩ := ih _ _ k2 x j (fun z hz => by
                  rcases List.mem_cons.1 hz with rfl | hz
                  · exact b1
                  · exact hs z hz) b3 e2
                exact ⟨c1, by omega, c3⟩
              · obtain ⟨y, k2, e1, e2⟩ := ER.bind_val h
                obtain ⟨b1, b2, b3⟩ := ih _ sc _ y k2 hs hk1 e1
                obtain ⟨z, k3, e3, e4⟩ := ER.bind_val e2
                obtain ⟨c1, c2, c3⟩ := ih _ sc _ z k3 hs b3 e3
                obtain ⟨d1, d2⟩ := rknS_bd h3 e4
                exact ⟨d1, by omega, by omega⟩
            · split at h
              · obtain ⟨y, k2, e1, e2⟩ := ER.bind_val h
                obtain ⟨b1, b2, b3⟩ := ih _ sc _ y k2 hs hk1 e1
                obtain ⟨z, k3, e3, e4⟩ := ER.bind_val e2
                obtain ⟨c1, c2, c3⟩ := ih _ sc _ z k3 hs b3 e3
                split at e4
                · obtain ⟨d1, d2, d3⟩ := ih _ sc _ x j hs c3 e4
                  exact ⟨d1, by omega, d3⟩
                · cases e4
              · split at h
                · obtain ⟨y, k2, e1, e2⟩ := ER.bind_val h
                  obtain ⟨b1, b2, b3⟩ := ih _ sc _ y k2 hs hk1 e1
                  split at e2
                  · obtain ⟨d1, d2, d3⟩ := ih _ sc _ x j hs b3 e2
                    exact ⟨d1, by omega, d3⟩
                  · obtain ⟨d1, d2, d3⟩ := ih _ sc _ x j hs b3 e2
                    exact ⟨d1, by omega, d3⟩
                · cases h
            · cases h
theorem ScP.fr {V fb pg k fuel : Nat} {w w' : World} (hV : EvAt w V fb pg k fuel) (hf : Fr V w w') : ∀ {v : Value} {l : List (List UInt8 × Int)}, ScP w v l → ScP w' v l
  | _, [], h => h
  | _, x :: r, h => by
    obtain ⟨b, u, h1, h2, h3⟩ := h
    refine ⟨b, u, h1, (hf.2 b (Array.getElem?_eq_some_iff.1 h2).1 (fun e => ?_)).trans h2, ScP.fr hV hf h3⟩
    rw [e, show w.heap[V]? = _ from hV] at h2
    injection h2 with h2
    injection h2 with _ h2
    exact absurd h2 (by decide)
/-- value's contract, with so many steps within one another -/
def EvC (p V fb pg fuel : Nat) (fs : List FnT) (w0 : World) (R : Nat) : Prop := ∀ (t : Tr) (v : Value) (a : Option Addr) (sc : List (List UInt8 × Int)) (k : Nat) (w : World), Below w0.heap.size w0 w → EvAt w V fb pg k fuel → k ≤ fuel → PT 0 w0 t v → TW t → ScP w (.pointer a) sc → ScB p sc → evl p fs fuel R t sc k ≠ .out →
  Calls Tryz.prog 59 #[.pointer (some ⟨V, 0, none⟩), v, .pointer a] w (EvP (Value.int .i64) V fb pg fuel w (evl p fs fuel R t sc k))

set_option maxRecDepth 100000 in
set_option maxHeartbeats 1000000 in
theorem two_of (p V fb pg fuel : Nat) (fs : List FnT) (w0 : World) (R : Nat) (h3 : 3 ≤ p) (hV0 : w0.heap.size ≤ V) (IH : EvC p V fb pg fuel fs w0 R) (kd at' n : Nat) (nm : List UInt8) (x y : Tr) (more : List Tr) (b : Nat) (a : Option Addr) (sc : List (List UInt8 × Int)) (k : Nat) (w : World) (hb : Below w0.heap.size w0 w) (hE : EvAt w V fb pg k fuel) (hk : k ≤ fuel) (hP : PT 0 w0 (.node kd nm at' n (x :: y :: more)) (.pointer (some ⟨b, 0, none⟩))) (hx : TW x) (hy : TW y) (hml : more.length ≤ 10) (hS : ScP w (.pointer a) sc) (hSB : ScB p sc)
    (r : ER (Int × Int)) (hr : r = (evl p fs fuel R x sc k).bind fun u k2 => (evl p fs fuel R y sc k2).bind fun v k3 => .val (u, v) k3) (hro : r ≠ .out) :
    Calls Tryz.prog 95 #[.pointer (some ⟨V, 0, none⟩), .pointer (some ⟨b, 0, none⟩), .pointer a] w (EvP (fun z : Int × Int => .tuple #[.int .i64 z.1, .int .i64 z.2]) V fb pg fuel w r) := by
  obtain ⟨b', av, c, e0, _, hbk, hks⟩ := hP
  injection e0 with e0
  injection e0 with e0
  injection e0 with e0
  subst e0
  obtain ⟨g, v0, rfl, _, d0, hp0⟩ := PTBs.at hks (i := 0) (t := x) rfl
  obtain ⟨g', v1, eg, _, d1, hp1⟩ := PTBs.at hks (i := 1) (t := y) rfl
  injection eg with eg
  injection eg with eg
  subst eg
  obtain ⟨b0, rfl⟩ := PT.form hp0
  obtain ⟨b1, rfl⟩ := PT.form hp1
  have p4 : w0.cell? ⟨b, 4, none⟩ = some (.slice (some ⟨g, 0, none⟩) (x :: y :: more).length c) := by simp [World.cell?, hbk]
  rw [Nat.zero_add] at d0 d1
  obtain ⟨nk, hnk⟩ : ∃ nk, nk = (x :: y :: more).length := ⟨_, rfl⟩
  rw [← hnk] at p4
  have hn2 : 2 ≤ nk ∧ nk ≤ 12 := by rw [hnk]; simp; omega
  have hn0 : (0 : Int) < (nk : Int) := by omega
  have hn1 : (1 : Int) < (nk : Int) := by omega
  have l4 := World.block_lt_of_cell? _ _ p4
  have l0 := World.block_lt_of_cell? _ _ d0
  have c4 := (hb.cell (p := ⟨b, 4, none⟩) l4).trans p4
  have c0 := (hb.cell (p := ⟨g, 0, none⟩) l0).trans d0
  have HR := hid hr
  have HRO := hid hro
  have hne1 : evl p fs fuel R x sc k ≠ .out := ER.bind_ne (by rw [← hr]; exact hro)
  have HC1 := hid (IH x _ a sc k w hb hE hk hp0 hx hS hSB hne1)
  have HIH := hid (fun k2 w1 (hf : Fr V w w1) (hE1 : EvAt w1 V fb pg k2 fuel) (hk2 : k2 ≤ fuel) (hne : evl p fs fuel R y sc k2 ≠ .out) => IH y _ a sc k2 w1 (hb.trans (hf.1.mono hV0)) hE1 hk2 hp1 hy (hS.fr hE hf) hSB hne)
  have HBD := hid (fun u k2 (h : evl p fs fuel R x sc k = .val u k2) => (evl_bd p fs fuel h3 R x sc k u k2 hSB hk h).2.2)
  have HW : Hid (∀ w1, Fr V w w1 → w1.cell? ⟨b, 4, none⟩ = some (.slice (some ⟨g, 0, none⟩) nk c) ∧ w1.cell? ⟨g, 1, none⟩ = some (.pointer (some ⟨b1, 0, none⟩))) := fun w1 hf => by
    have hb1 := hb.trans (hf.1.mono hV0)
    exact ⟨(hb1.cell (p := ⟨b, 4, none⟩) l4).trans p4, (hb1.cell (p := ⟨g, 1, none⟩) (World.block_lt_of_cell? _ _ d1)).trans d1⟩
  clear hks hp0 hp1 hbk d0 d1 p4 l4 l0 hnk IH hr hro hne1 hb hS hSB hx hy hE
  go_enter Tryz.func95, Tryz.ntmps95
  go_wp2_with fail
  refine HC1.out.mono ?_
  intro e w1 he
  obtain ⟨hf1, he⟩ := he
  cases h1 : evl p fs fuel R x sc k with
  | out => rw [h1] at he; exact he.elim
  | stop er =>
    rw [h1] at he
    have he' : e = pncE er := he
    subst he'
    have hr1 := HR.out
    rw [h1] at hr1
    have hr2 : r = .stop er := hr1
    subst hr2
    exact ⟨rfl, hf1, rfl⟩
  | val u k2 =>
    rw [h1] at he
    obtain ⟨rfl, hE1⟩ := he
    have hr1 := HR.out
    rw [h1] at hr1
    have hr2 : r = (evl p fs fuel R y sc k2).bind fun v k3 => .val (u, v) k3 := hr1
    have HR2 := hid hr2
    have hne2 : evl p fs fuel R y sc k2 ≠ .out := ER.bind_ne (by rw [← hr2]; exact HRO.out)
    have HC2 := hid (HIH.out k2 w1 hf1 hE1 (HBD.out u k2 h1) hne2)
    obtain ⟨f4, f1⟩ := HW.out w1 hf1
    have HF1 := hid hf1
    clear hr1 hr2 hne2 h1 hE1 HC1 hf1 HR
    go_wp2_with fail
    refine HC2.out.mono ?_
    intro e w2 he
    obtain ⟨hf2, he⟩ := he
    have HF2 := hid (HF1.out.trans hf2)
    cases h2 : evl p fs fuel R y sc k2 with
    | out => rw [h2] at he; exact he.elim
    | stop er =>
      rw [h2] at he
      have he' : e = pncE er := he
      subst he'
      have hr3 := HR2.out
      rw [h2] at hr3
      have hr4 : r = .stop er := hr3
      subst hr4
      exact ⟨rfl, HF2.out, rfl⟩
    | val v k3 =>
      rw [h2] at he
      obtain ⟨rfl, hE2⟩ := he
      have hr3 := HR2.out
      rw [h2] at hr3
      have hr4 : r = .val (u, v) k3 := hr3
      subst hr4
      have HE2 := hid hE2
      clear hr3 h2 hE2 hf2 HR2
      go_wp2_with fail
      go_ret2
      exact ⟨HF2.out, rfl, HE2.out⟩

end Go.Proofs.YtlgcmeachjjmgajGreatDoor

namespace Go.Proofs.YtlgcmeachjjmgajGreatDoor
open Go.RowKit

theorem bind_pair {α : Type} (r : ER Int) (g : Nat → ER Int) (F : Int → Int → Nat → ER α) : (r.bind fun u k2 => (g k2).bind fun v k3 => F u v k3) = (r.bind fun u k2 => (g k2).bind fun v k3 => .val (u, v) k3).bind (fun z k => F z.1 z.2 k) := by
  cases r with
  | val u k =>
    show (g k).bind _ = ((g k).bind _).bind _
    cases g k <;> rfl
  | stop e => rfl
  | out => rfl

set_option maxRecDepth 100000 in
set_option maxHeartbeats 2000000 in
theorem reckon_of (p V fb pg fuel : Nat) (fs : List FnT) (w0 : World) (R : Nat) (h3 : 3 ≤ p) (h4 : p ≤ 2147483647) (hpr : Num.Prime p) (hV0 : w0.heap.size ≤ V) (hp : w0.cell? ⟨fb, 0, none⟩ = some (.int .i64 p)) (IH : EvC p V fb pg fuel fs w0 R) (kd at' n : Nat) (nm : List UInt8) (x y : Tr) (hkd : 4 ≤ kd ∧ kd ≤ 8) (b : Nat) (a : Option Addr) (sc : List (List UInt8 × Int)) (k : Nat) (w : World) (hb : Below w0.heap.size w0 w) (hE : EvAt w V fb pg k fuel) (hk : k ≤ fuel) (hP : PT 0 w0 (.node kd nm at' n [x, y]) (.pointer (some ⟨b, 0, none⟩))) (hx : TW x) (hy : TW y) (hS : ScP w (.pointer a) sc) (hSB : ScB p sc)
    (r : ER Int) (hr : r = (evl p fs fuel R x sc k).bind fun u k2 => (evl p fs fuel R y sc k2).bind fun v k3 => rknS p kd u v k3) (hro : r ≠ .out) :
    Calls Tryz.prog 97 #[.pointer (some ⟨V, 0, none⟩), .pointer (some ⟨b, 0, none⟩), .pointer a] w (EvP (Value.int .i64) V fb pg fuel w r) := by
  obtain ⟨q, hq⟩ : ∃ q, q = (evl p fs fuel R x sc k).bind fun u k2 => (evl p fs fuel R y sc k2).bind fun v k3 => ER.val (u, v) k3 := ⟨_, rfl⟩
  rw [bind_pair, ← hq] at hr
  have hqo : q ≠ .out := ER.bind_ne (by rw [← hr]; exact hro)
  have HT := hid (two_of p V fb pg fuel fs w0 R h3 hV0 IH kd at' n nm x y [] b a sc k w hb hE hk hP hx hy (by simp) hS hSB q hq hqo)
  have HQB : Hid (∀ z k3, q = .val z k3 → (0 ≤ z.1 ∧ z.1 < (p : Int)) ∧ (0 ≤ z.2 ∧ z.2 < (p : Int))) := fun z k3 h => by
    rw [hq] at h
    obtain ⟨u, k1, e1, e2⟩ := ER.bind_val h
    obtain ⟨v, k2, e3, e4⟩ := ER.bind_val e2
    have b1 := evl_bd p fs fuel h3 R x sc k u k1 hSB hk e1
    have b2 := evl_bd p fs fuel h3 R y sc k1 v k2 hSB b1.2.2 e3
    injection e4 with e4 _
    subst e4
    exact ⟨b1.1, b2.1⟩
  obtain ⟨b', av, c, e0, _, hbk, _⟩ := hP
  injection e0 with e0
  injection e0 with e0
  injection e0 with e0
  subst e0
  have p0 : w0.cell? ⟨b, 0, none⟩ = some (.int .i64 (kd : Int)) := by simp [World.cell?, hbk]
  have HKD : Hid (∀ w1, Fr V w w1 → w1.cell? ⟨b, 0, none⟩ = some (.int .i64 (kd : Int))) := fun w1 hf => ((hb.trans (hf.1.mono hV0)).cell (p := ⟨b, 0, none⟩) (World.block_lt_of_cell? _ _ p0)).trans p0
  have HFB : Hid (∀ w1, Fr V w w1 → w1.cell? ⟨fb, 0, none⟩ = some (.int .i64 p)) := fun w1 hf => ((hb.trans (hf.1.mono hV0)).cell (p := ⟨fb, 0, none⟩) (World.block_lt_of_cell? _ _ hp)).trans hp
  have HR := hid hr
  clear hq hr hro hqo hx hy hS hSB hb hE hbk p0 hp IH
  go_enter Tryz.func97, Tryz.ntmps97
  go_wp2_with fail
  refine HT.out.mono ?_
  intro e w1 he
  obtain ⟨hf1, he⟩ := he
  cases hqq : q with
  | out => rw [hqq] at he; exact he.elim
  | stop er =>
    rw [hqq] at he
    have he' : e = pncE er := he
    subst he'
    have hr1 := HR.out
    rw [hqq] at hr1
    have hr2 : r = .stop er := hr1
    subst hr2
    exact ⟨rfl, hf1, rfl⟩
  | val z k3 =>
    rw [hqq] at he
    obtain ⟨rfl, hE1⟩ := he
    obtain ⟨hu, hv⟩ := HQB.out z k3 hqq
    have hr1 := HR.out
    rw [hqq] at hr1
    have hr2 : r = rknS p kd z.1 z.2 k3 := hr1
    have HF1 := hid hf1
    have HE1 := hid hE1
    have g0 := HKD.out w1 hf1
    have g1 : w1.cell? ⟨V, 0, none⟩ = some (.pointer (some ⟨fb, 0, none⟩)) := by simp [World.cell?, show w1.heap[V]? = _ from hE1]
    obtain ⟨u, v⟩ := z
    dsimp only at hu hv hr2
    unfold rknS at hr2
    clear hr1 hqq hf1 hE1 HT HQB HR HKD
    obtain rfl | rfl | rfl | rfl | rfl : kd = 4 ∨ kd = 5 ∨ kd = 6 ∨ kd = 7 ∨ kd = 8 := by omega
    · have hr3 : r = .val ((u + v) % (p : Int)) k3 := hr2
      subst hr3
      clear hr2
      go_wp2_with fail
      refine (add_any p fb u v w1 h3 h4 (HFB.out w1 HF1.out) (by omega) (by omega) (by omega) (by omega)).mono ?_
      rintro e w2 ⟨rfl, rfl⟩
      go_wp2_with fail
      go_ret
      exact ⟨HF1.out, rfl, HE1.out⟩
    · have hr3 : r = .val ((u - v) % (p : Int)) k3 := hr2
      subst hr3
      clear hr2
      go_wp2_with fail
      refine (sub_any p fb u v w1 h3 h4 (HFB.out w1 HF1.out) (by omega) (by omega) (by omega) (by omega)).mono ?_
      rintro e w2 ⟨rfl, rfl⟩
      go_wp2_with fail
      go_ret
      exact ⟨HF1.out, rfl, HE1.out⟩
    · have hr3 : r = .val (u * v % (p : Int)) k3 := hr2
      subst hr3
      clear hr2
      go_wp2_with fail
      refine (mul_any p fb u v w1 h3 h4 (HFB.out w1 HF1.out) (by omega) (by omega) (by omega) (by omega)).mono ?_
      rintro e w2 ⟨rfl, rfl⟩
      go_wp2_with fail
      go_ret
      exact ⟨HF1.out, rfl, HE1.out⟩
    · have hr3 : r = if v = 0 then .stop 7 else .val (u * (invn p v : Int) % (p : Int)) k3 := hr2
      clear hr2
      by_cases h0 : v = 0
      · rw [if_pos h0] at hr3
        subst hr3
        have q0 : (v != 0) = false := by simp [h0]
        clear h0
        go_wp2_with fail
        refine (must_any false w1).mono ?_
        rintro e w2 ⟨rfl, rfl⟩
        exact ⟨rfl, HF1.out, rfl⟩
      · rw [if_neg h0] at hr3
        subst hr3
        have q0 : (v != 0) = true := by simp [h0]
        clear h0
        go_wp2_with fail
        refine (must_any true w1).mono ?_
        rintro e w2 ⟨rfl, rfl⟩
        rw [if_pos rfl]
        go_wp2_with fail
        refine (div_any p fb u v w2 hpr h3 h4 (HFB.out w2 HF1.out) (by omega) (by omega) (by omega) (by omega)).mono ?_
        rintro e w3 ⟨rfl, rfl⟩
        go_wp2_with fail
        go_ret
        exact ⟨HF1.out, rfl, HE1.out⟩
    · have hr3 : r = .val (if u = v then 1 else 0) k3 := hr2
      clear hr2
      by_cases h0 : u = v
      · rw [if_pos h0] at hr3
        subst hr3
        have q0 : (u == v) = true := by simp [h0]
        clear h0
        go_wp2_with fail
        go_ret
        exact ⟨HF1.out, rfl, HE1.out⟩
      · rw [if_neg h0] at hr3
        subst hr3
        have q0 : (u == v) = false := by simp [h0]
        clear h0
        go_wp2_with fail
        go_ret
        exact ⟨HF1.out, rfl, HE1.out⟩

end Go.Proofs.YtlgcmeachjjmgajGreatDoor
