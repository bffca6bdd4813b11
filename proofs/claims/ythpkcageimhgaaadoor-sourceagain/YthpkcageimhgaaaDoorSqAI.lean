/- Package source: a function, read. Package source: functions in a row. -/
import Derived.Test.YthpkcageimhgaaaDoorSrR
import Derived.Test.YthpkcageimhgaaaDoorSrS
namespace Go.Proofs.YthpkcageimhgaaaDoor
open Go.RowKit

/-- a function as a value -/
def VF (lo : Nat) : World → Value → FnT → Prop := fun w v g => ∃ a c b, v = .agg #[.string (bs g.name), .int .i64 (g.at' : Int), .slice a g.more.length c, .pointer (some ⟨b, 0, none⟩)] ∧ NmR lo w a g.more ∧ PT lo w g.body (.pointer (some ⟨b, 0, none⟩))

set_option maxRecDepth 100000 in
set_option maxHeartbeats 2000000 in
theorem functionX (R : Nat) (T : ByteArray) (f j : Nat) (w : World) (hR : RdAt w R T j 0) (r : Res FnT) (hr : r = pFun (by' T) f j) (hro : r ≠ .out) :
    Calls Tryd.prog 22 #[.pointer (some ⟨R, 0, none⟩)] w (Rx w R T 0 0 (VF w.heap.size) r) := by
  have hmf : ∀ (fn : Go.Fn) (first cap : Array Value) (w : World), (Instr.makeFunc fn first cap).run Tryd.prog w = .ok (.func fn first cap) w := fun _ _ _ _ => rfl
  obtain ⟨V, hV⟩ : ∃ V, V = w.alloc (.cells #[.string ⟨#[]⟩, .int .i64 0, .slice none 0 0, .pointer none] 40) := ⟨_, rfl⟩
  have hb0 : Below w.heap.size w V := by rw [hV]; exact (Below.refl _ _).alloc (Nat.le_refl _) _
  have hv0 : V.heap[w.heap.size]? = some (.cells #[.string ⟨#[]⟩, .int .i64 0, .slice none 0 0, .pointer none] 40 (0, 0)) := by rw [hV]; exact heap_alloc_new w _
  have HT := hid (takeX R T j 0 4 V (hR.below hb0))
  have hlt := hR.lt
  have HB0 := hid hb0
  have HV0 := hid hv0
  have HFV : Hid (Fr R w V) := Fr.below HB0.out (Nat.le_of_lt hlt)
  unfold pFun at hr
  have HR := hid hr
  have HRO := hid hro
  clear hR hb0 hv0 hr hro
  go_enter Tryd.func22, Tryd.ntmps22
  go_wp2_with fail
  rw [← hV]
  clear hV
  refine HT.out.mono ?_
  intro e w1 he
  have hr2 := HR.out
  cases ht : pTake (by' T) 4 j with
  | out => exact absurd ht pTake_out
  | bad er at' =>
    rw [ht] at he hr2
    obtain ⟨h5, rfl, h6⟩ := he
    simp only [Res.bind] at hr2
    subst hr2
    exact ⟨rfl, HFV.out.trans h5, rfl, h6⟩
  | ok t1 a1 =>
    rw [ht] at he hr2
    obtain ⟨h5, v, rfl, rfl, h6⟩ := he
    simp only [Res.bind] at hr2
    have HF1 := hid (HFV.out.trans h5)
    have HD1 := hid h6
    have HR1 := hid hr2
    have HO1 : Hid (w1.heap[w.heap.size]? = some (.cells #[.string ⟨#[]⟩, .int .i64 0, .slice none 0 0, .pointer none] 40 (0, 0))) := (h5.2 _ (Array.getElem?_eq_some_iff.1 HV0.out).1 (by omega)).trans HV0.out
    clear h5 h6 hr2 ht HT HR HFV HV0 HB0
    have HT := hid (nameX R T a1 0 w1 HD1.out)
    go_wp2_with fail
    refine HT.out.mono ?_
    intro e w2 he
    have hr2 := HR1.out
    cases ht : pName (by' T) a1 with
    | out => exact absurd ht pName_out
    | bad er at' =>
      rw [ht] at he hr2
      obtain ⟨h5, rfl, h6⟩ := he
      (try simp only at hr2)
      subst hr2
      exact ⟨rfl, HF1.out.trans h5, rfl, h6⟩
    | ok nm a2 =>
      rw [ht] at he hr2
      obtain ⟨h5, v, rfl, rfl, h6⟩ := he
      (try simp only at hr2)
      have HF2 := hid (HF1.out.trans h5)
      have HD2 := hid h6
      have HR2 := hid hr2
      replace HO1 := hid ((h5.2 _ (Array.getElem?_eq_some_iff.1 HO1.out).1 (by omega)).trans HO1.out)
      have hne : pBrack (by' T) f a2 ≠ .out := fun e => by rw [e] at hr2; exact HRO.out hr2
      have HT := hid (brackX R T f a2 w2 h6 _ rfl hne)
      obtain ⟨s, hs⟩ : ∃ s, s = bs nm.1 := ⟨_, rfl⟩
      have HS := hid hs
      unfold namv
      rw [← hs]
      clear h5 h6 hr2 ht HF1 HD1 HR1 hs
      go_wp2_with fail
      refine HT.out.mono ?_
      intro e w3 he
      have hr2 := HR2.out
      cases ht : pBrack (by' T) f a2 with
      | out => exact absurd ht hne
      | bad er at' =>
        rw [ht] at he hr2
        obtain ⟨h5, rfl, h6⟩ := he
        (try simp only at hr2)
        subst hr2
        exact ⟨rfl, HF2.out.trans h5, rfl, h6⟩
      | ok more a3 =>
        rw [ht] at he hr2
        obtain ⟨h5, v, rfl, ⟨av, cv, rfl, hnm⟩, h6⟩ := he
        (try simp only at hr2)
        have hs2 := HF2.out.size
        obtain ⟨n, hn⟩ : ∃ n, n = more.length := ⟨_, rfl⟩
        have HN := hid hn
        rw [← hn]
        obtain ⟨W3, hW3⟩ : ∃ W3, W3 = w3.alloc (.cells #[.string s, .int .i64 (nm.2 : Int), .slice av n cv, .pointer none] 40) := ⟨_, rfl⟩
        have hbN : Below w3.heap.size w3 W3 := by rw [hW3]; exact (Below.refl _ _).alloc (Nat.le_refl _) _
        have hl3 : W3.heap[w3.heap.size]? = some (.cells #[.string s, .int .i64 (nm.2 : Int), .slice av n cv, .pointer none] 40 (0, 0)) := by rw [hW3]; exact heap_alloc_new w3 _
        obtain ⟨N, hN⟩ : ∃ N, N = w3.heap.size := ⟨_, rfl⟩
        rw [← hN] at hl3
        have hwn : w.heap.size < N := by have := (Array.getElem?_eq_some_iff.1 HO1.out).1; have := h5.size; omega
        have HWN := hid hwn
        have HF3 := hid ((HF2.out.trans h5).more hbN hlt)
        have HD3 := hid (h6.below hbN)
        have HR3 := hid hr2
        have HNM := hid (hnm.keep hs2 (fun b _ hb => hbN.block b hb))
        have HL3 := hid hl3
        have hav : ∀ g, av = some ⟨g, 0, none⟩ → more ≠ [] → w.heap.size < g ∧ g < N := fun g e hm => by
          cases more with
          | nil => exact absurd rfl hm
          | cons x q =>
            obtain ⟨g2, k1, k2, k3, _⟩ := hnm 0 x rfl
            rw [e] at k1
            injection k1 with k1
            injection k1 with k1
            subst k1
            have k4 := World.block_lt_of_cell? _ _ k3
            have k5 := (Array.getElem?_eq_some_iff.1 HO1.out).1
            exact ⟨by omega, by rw [hN]; exact k4⟩
        have HAV := hid hav
        clear hav
        replace HO1 := hid ((hbN.block _ (by have := (Array.getElem?_eq_some_iff.1 HO1.out).1; have := h5.size; omega)).trans ((h5.2 _ (Array.getElem?_eq_some_iff.1 HO1.out).1 (by omega)).trans HO1.out))
        clear h5 h6 hr2 ht HF2 HD2 HR2 HT hnm hbN hs2 hl3 hwn hn
        have HNN := hid hN
        have HW3 := hid hW3
        clear hN hW3
        have HT := hid (takeX R T a3 0 14 W3 HD3.out)
        go_wp2_with fail
        rw [← HNN.out, ← HW3.out]
        clear HW3 HNN
        refine HT.out.mono ?_
        intro e w4 he
        have hr2 := HR3.out
        cases ht : pTake (by' T) 14 a3 with
        | out => exact absurd ht pTake_out
        | bad er at' =>
          rw [ht] at he hr2
          obtain ⟨h5, rfl, h6⟩ := he
          (try simp only at hr2)
          subst hr2
          exact ⟨rfl, HF3.out.trans h5, rfl, h6⟩
        | ok t4 a4 =>
          rw [ht] at he hr2
          obtain ⟨h5, v, rfl, rfl, h6⟩ := he
          (try simp only at hr2)
          have HF4 := hid (HF3.out.trans h5)
          have HD4 := hid h6
          have HR4 := hid hr2
          have hNR : N ≠ R := by have := HWN.out; omega
          replace HO1 := hid ((h5.2 _ (Array.getElem?_eq_some_iff.1 HO1.out).1 (by omega)).trans HO1.out)
          replace HL3 := hid ((h5.2 _ (Array.getElem?_eq_some_iff.1 HL3.out).1 hNR).trans HL3.out)
          replace HNM := hid (HNM.out.keep (Nat.le_refl _) (fun b hb hb2 => h5.2 b hb2 (by omega)))
          have hne : pExpr (by' T) f a4 0 ≠ .out := fun e => by rw [e] at hr2; exact HRO.out hr2
          have HC := hid ((read_all R T f f (Nat.le_refl _)).1 a4 0 w4 h6 (by omega) hne)
          clear h5 h6 hr2 ht HT HF3 HD3 HR3
          go_wp2_with fail
          refine HC.out.mono ?_
          intro e w5 he
          have hr2 := HR4.out
          cases ht : pExpr (by' T) f a4 0 with
          | out => exact absurd ht hne
          | bad er at' =>
            rw [ht] at he hr2
            obtain ⟨h5, rfl, h6⟩ := he
            (try simp only at hr2)
            subst hr2
            exact ⟨rfl, HF4.out.trans h5, rfl, h6⟩
          | ok x a5 =>
            rw [ht] at he hr2
            obtain ⟨h5, v, rfl, hv, h6⟩ := he
            obtain ⟨q, rfl⟩ := hv.form
            (try simp only at hr2)
            have hs4 := HF4.out.size
            have HF5 := hid (HF4.out.trans h5)
            have HD5 := hid h6
            have HR5 := hid hr2
            have HVx : Hid (PT w4.heap.size w5 x (.pointer (some ⟨q, 0, none⟩))) := hv
            have hN4 : N < w4.heap.size := (Array.getElem?_eq_some_iff.1 HL3.out).1
            have HN4 := hid hN4
            have ho5 := (h5.2 _ (Array.getElem?_eq_some_iff.1 HO1.out).1 (by omega)).trans HO1.out
            have hl5 := (h5.2 _ (Array.getElem?_eq_some_iff.1 HL3.out).1 hNR).trans HL3.out
            have HNM5 := hid (HNM.out.keep (Nat.le_refl _) (fun b hb hb2 => h5.2 b hb2 (by omega)))
            have HO5 := hid ho5
            have HL5 := hid hl5
            have hNw : N ≠ w.heap.size := by have := HWN.out; omega
            have l0 : w5.cell? ⟨N, 0, none⟩ = some (.string s) := by simp [World.cell?, hl5]
            have l1 : w5.cell? ⟨N, 1, none⟩ = some (.int .i64 (nm.2 : Int)) := by simp [World.cell?, hl5]
            have l2 : w5.cell? ⟨N, 2, none⟩ = some (.slice av n cv) := by simp [World.cell?, hl5]
            have l3 : w5.cell? ⟨N, 3, none⟩ = some (.pointer none) := by simp [World.cell?, hl5]
            have lf := fun i => frozen_of_row w5 N i _ _ hl5
            have o0 : w5.cell? ⟨w.heap.size, 0, none⟩ = some (.string ⟨#[]⟩) := by simp [World.cell?, ho5]
            have o1 : w5.cell? ⟨w.heap.size, 1, none⟩ = some (.int .i64 0) := by simp [World.cell?, ho5]
            have o2 : w5.cell? ⟨w.heap.size, 2, none⟩ = some (.slice none 0 0) := by simp [World.cell?, ho5]
            have o3 : w5.cell? ⟨w.heap.size, 3, none⟩ = some (.pointer none) := by simp [World.cell?, ho5]
            have of' := fun i => frozen_of_row w5 w.heap.size i _ _ ho5
            clear h5 h6 hr2 ht hv hne HC HO1 HL3 HNM HF4 HD4 HR4 ho5 hl5
            go_wp2_with fail
            obtain ⟨W9, hW9⟩ : ∃ W9, W9 = ((((w5.setCell ⟨N, 3, none⟩ (.pointer (some ⟨q, 0, none⟩))).setCell ⟨w.heap.size, 0, none⟩ (.string s)).setCell ⟨w.heap.size, 1, none⟩ (.int .i64 (nm.2 : Int))).setCell ⟨w.heap.size, 2, none⟩ (.slice av n cv)).setCell ⟨w.heap.size, 3, none⟩ (.pointer (some ⟨q, 0, none⟩)) := ⟨_, rfl⟩
            have hwN := HWN.out
            have hoth : ∀ b, b ≠ N → b ≠ w.heap.size → W9.heap[b]? = w5.heap[b]? := fun b k1 k2 => by
              rw [hW9, heap_setCell_other _ _ _ _ k2, heap_setCell_other _ _ _ _ k2, heap_setCell_other _ _ _ _ k2, heap_setCell_other _ _ _ _ k2, heap_setCell_other _ _ _ _ k1]
            have hrow : W9.heap[w.heap.size]? = some (.cells #[.string s, .int .i64 (nm.2 : Int), .slice av n cv, .pointer (some ⟨q, 0, none⟩)] 40 (0, 0)) := by
              rw [hW9]
              exact heap_setCell_same _ _ 3 _ _ _ (heap_setCell_same _ _ 2 _ _ _ (heap_setCell_same _ _ 1 _ _ _ (heap_setCell_same _ _ 0 _ _ _ ((heap_setCell_other _ _ _ _ (by show w.heap.size ≠ N; omega)).trans HO5.out))))
            have hfr : Fr R w W9 := by
              rw [hW9]
              exact ((((HF5.out.setNew (g := N) (by omega) hlt 3 _).setNew (Nat.le_refl _) hlt 0 _).setNew (Nat.le_refl _) hlt 1 _).setNew (Nat.le_refl _) hlt 2 _).setNew (Nat.le_refl _) hlt 3 _
            have hrd : RdAt W9 R T a5 0 := by
              have h7 := HD5.out
              refine ⟨(hoth R (by omega) (by omega)).trans h7.h, h7.le, h7.small, ?_⟩
              obtain ⟨k1, ev, k2, k3⟩ := h7.ev
              exact ⟨k1, ev, (World.cell?_of_block (a := ⟨5, 0, none⟩) (hoth _ (by show 5 ≠ N; omega) (by show 5 ≠ w.heap.size; omega))).trans k2, k3⟩
            rw [← hW9]
            refine bodyPost_ret (results_cell_row rfl _ _ w.heap.size 40 #[.string s, .int .i64 (nm.2 : Int), .slice av n cv, .pointer (some ⟨q, 0, none⟩)] (0, 0) _ rfl (by exact hrow) Tryd.underlying40 rfl (by kernel_rfl)) rfl ?_
            have hr3 := HR5.out
            subst hr3
            refine ⟨hfr, _, rfl, ⟨av, cv, q, by rw [HS.out, HN.out], fun i y hy => ?_, ?_⟩, hrd⟩
            · obtain ⟨g, k1, k2, k3, k4⟩ := HNM5.out i y hy
              obtain ⟨k5, k6⟩ := HAV.out g k1 (fun e => by rw [e] at hy; simp at hy)
              have k7 := hoth g (by omega) (by omega)
              exact ⟨g, k1, by omega, (World.cell?_of_block (a := ⟨g, i * 2, none⟩) k7).trans k3, (World.cell?_of_block (a := ⟨g, i * 2 + 1, none⟩) k7).trans k4⟩
            · have k1 := HN4.out
              refine PT.mono (PT.keep (fun b k2 _ => hoth b (by omega) (by omega)) _ _ HVx.out) ?_
              omega

end Go.Proofs.YthpkcageimhgaaaDoor

namespace Go.Proofs.YthpkcageimhgaaaDoor
open Go.RowKit

def NmB (B : Nat → Prop) (w : World) (a : Option Addr) (ts : List (List UInt8 × Nat)) : Prop := ∀ (i : Nat) x, ts[i]? = some x → ∃ g, a = some ⟨g, 0, none⟩ ∧ B g ∧ w.cell? ⟨g, i * 2, none⟩ = some (.string (bs x.1)) ∧ w.cell? ⟨g, i * 2 + 1, none⟩ = some (.int .i64 (x.2 : Int))
theorem NmB.keep {B B' : Nat → Prop} {w w' : World} {a : Option Addr} {ts : List (List UInt8 × Nat)} (h : NmB B w a ts) (hk : ∀ b, B b → b < w.heap.size → B' b ∧ w'.heap[b]? = w.heap[b]?) : NmB B' w' a ts := fun i x hx => by
  obtain ⟨g, h1, h2, h3, h4⟩ := h i x hx
  obtain ⟨k1, k2⟩ := hk g h2 (World.block_lt_of_cell? _ _ h3)
  exact ⟨g, h1, k1, (World.cell?_of_block (a := ⟨g, i * 2, none⟩) k2).trans h3, (World.cell?_of_block (a := ⟨g, i * 2 + 1, none⟩) k2).trans h4⟩
/-- a function's four cells -/
def FnB (B : Nat → Prop) (w : World) (xs : List Value) (i : Nat) (g : FnT) : Prop := ∃ a c b, xs[i * 4]? = some (.string (bs g.name)) ∧ xs[i * 4 + 1]? = some (.int .i64 (g.at' : Int)) ∧ xs[i * 4 + 2]? = some (.slice a g.more.length c) ∧ xs[i * 4 + 3]? = some (.pointer (some ⟨b, 0, none⟩)) ∧ NmB B w a g.more ∧ PTB B w g.body (.pointer (some ⟨b, 0, none⟩))
theorem FnB.keep {B B' : Nat → Prop} {w w' : World} {xs : List Value} {i : Nat} {g : FnT} (h : FnB B w xs i g) (hk : ∀ b, B b → b < w.heap.size → B' b ∧ w'.heap[b]? = w.heap[b]?) : FnB B' w' xs i g := by
  obtain ⟨a, c, b, h1, h2, h3, h4, h5, h6⟩ := h
  exact ⟨a, c, b, h1, h2, h3, h4, h5.keep hk, PTB.keep hk _ _ h6⟩
def FnRow (base : Nat) (w : World) (v : Value) (fs : List FnT) : Prop := ∃ xs : List Value, w.ownsRow base 40 4 v fs.length xs ∧ ∀ (i : Nat) g, fs[i]? = some g → FnB (fun b => base ≤ b ∧ some b ≠ v.ownBlock) w xs i g
theorem FnRow.fr {R base : Nat} {w w' : World} {v : Value} {fs : List FnT} (h : FnRow base w v fs) (f : Fr R w w') (hb : R < base) : FnRow base w' v fs := by
  obtain ⟨xs, h1, h2⟩ := h
  exact ⟨xs, ownsRow_fr h1 f hb, fun i g hg => (h2 i g hg).keep (fun b hB hl => ⟨hB, f.2 b hl (by omega)⟩)⟩
theorem FnRow.form {base : Nat} {w : World} {v : Value} {fs : List FnT} (h : FnRow base w v fs) : ∃ a c, v = .slice a fs.length c := by
  obtain ⟨xs, h1, _⟩ := h
  rcases h1.2 with ⟨rfl, h0⟩ | ⟨g, cap, cur, rfl, _⟩
  · exact ⟨none, 0, by rw [h0]⟩
  · exact ⟨_, _, rfl⟩
theorem FnRow.push {base : Nat} {W w2 : World} {v v' : Value} {fs : List FnT} {g : FnT} {a : Option Addr} {c b : Nat} {xs : List Value} (h1 : W.ownsRow base 40 4 v fs.length xs) (h2 : ∀ (i : Nat) g, fs[i]? = some g → FnB (fun b => base ≤ b ∧ some b ≠ v.ownBlock) W xs i g)
    (hn : NmB (fun b => base ≤ b ∧ some b ≠ v.ownBlock) W a g.more) (hp : PTB (fun b => base ≤ b ∧ some b ≠ v.ownBlock) W g.body (.pointer (some ⟨b, 0, none⟩)))
    (ho : w2.ownsRow base 40 4 v' (fs.length + 1) (xs ++ [.string (bs g.name), .int .i64 (g.at' : Int), .slice a g.more.length c, .pointer (some ⟨b, 0, none⟩)])) (hg : W.grownBy w2 v.ownBlock) (hw : v'.ownBlock = v.ownBlock ∨ v'.ownBlock = some W.heap.size) : FnRow base w2 v' (fs ++ [g]) := by
  have hk : ∀ b, (base ≤ b ∧ some b ≠ v.ownBlock) → b < W.heap.size → (base ≤ b ∧ some b ≠ v'.ownBlock) ∧ w2.heap[b]? = W.heap[b]? := fun b hB hl => by
    refine ⟨⟨hB.1, ?_⟩, hg.block b hl hB.2⟩
    rcases hw with e | e
    · rw [e]; exact hB.2
    · rw [e]; intro e2; injection e2; omega
  have hlen : xs.length = fs.length * 4 := h1.1
  refine ⟨_, by rw [List.length_append]; exact ho, fun i x hx => ?_⟩
  rcases Nat.lt_or_ge i fs.length with hi | hi
  · rw [List.getElem?_append_left hi] at hx
    obtain ⟨a', c', b', k1, k2, k3, k4, k5, k6⟩ := (h2 i x hx).keep hk
    exact ⟨a', c', b', by rw [List.getElem?_append_left (by omega)]; exact k1, by rw [List.getElem?_append_left (by omega)]; exact k2, by rw [List.getElem?_append_left (by omega)]; exact k3, by rw [List.getElem?_append_left (by omega)]; exact k4, k5, k6⟩
  · have hi2 : i = fs.length := by
      have : i < (fs ++ [g]).length := (List.getElem?_eq_some_iff.1 hx).1
      simp at this
      omega
    subst hi2
    simp at hx
    subst hx
    have e : ∀ j, (xs ++ [.string (bs g.name), .int .i64 (g.at' : Int), .slice a g.more.length c, .pointer (some ⟨b, 0, none⟩)])[fs.length * 4 + j]? = [Value.string (bs g.name), .int .i64 (g.at' : Int), .slice a g.more.length c, .pointer (some ⟨b, 0, none⟩)][j]? := fun j => by
      rw [List.getElem?_append_right (by omega), show fs.length * 4 + j - xs.length = j by omega]
    exact ⟨a, c, b, e 0, e 1, e 2, e 3, hn.keep hk, PTB.keep hk _ _ hp⟩
/-- functions in memory -/
def FnR (lo : Nat) (w : World) (a : Option Addr) (fs : List FnT) : Prop := ∀ (i : Nat) g, fs[i]? = some g → ∃ k a2 c b, a = some ⟨k, 0, none⟩ ∧ lo ≤ k ∧ w.cell? ⟨k, i * 4, none⟩ = some (.string (bs g.name)) ∧ w.cell? ⟨k, i * 4 + 1, none⟩ = some (.int .i64 (g.at' : Int)) ∧ w.cell? ⟨k, i * 4 + 2, none⟩ = some (.slice a2 g.more.length c) ∧ w.cell? ⟨k, i * 4 + 3, none⟩ = some (.pointer (some ⟨b, 0, none⟩)) ∧ NmR lo w a2 g.more ∧ PT lo w g.body (.pointer (some ⟨b, 0, none⟩))
theorem FnRow.vl {base : Nat} {w : World} {v : Value} {fs : List FnT} (h : FnRow base w v fs) : ∃ a c, v = .slice a fs.length c ∧ (fs.length ≤ c ∧ c ≤ maxLen) ∧ FnR base w a fs := by
  obtain ⟨xs, h1, h2⟩ := h
  rcases h1.2 with ⟨rfl, h0⟩ | ⟨k, cap, cur, rfl, hbs, _, hcap, hcm, _⟩
  · obtain rfl : fs = [] := List.length_eq_zero_iff.1 h0
    exact ⟨none, 0, rfl, ⟨Nat.le_refl _, Nat.zero_le _⟩, fun i x hx => by simp at hx⟩
  · refine ⟨_, _, rfl, ⟨hcap, hcm⟩, fun i g hg => ?_⟩
    obtain ⟨a2, c, b, k1, k2, k3, k4, k5, k6⟩ := h2 i g hg
    have hadd : ∀ j, (⟨k, 0, none⟩ : Addr).add j = ⟨k, j, none⟩ := fun j => by unfold Addr.add; split <;> simp_all
    have e1 := h1.cells (g := k) rfl _ _ k1
    have e2 := h1.cells (g := k) rfl _ _ k2
    have e3 := h1.cells (g := k) rfl _ _ k3
    have e4 := h1.cells (g := k) rfl _ _ k4
    rw [hadd] at e1 e2 e3 e4
    exact ⟨k, a2, c, b, rfl, hbs, e1, e2, e3, e4, NmB.keep k5 (fun b hB _ => ⟨hB.1, rfl⟩), PTB.keep (fun b hB _ => ⟨hB.1, rfl⟩) _ _ k6⟩
theorem cell_four_new (w : World) (x y z u : Value) (t : TypeId) : ∀ j v, [x, y, z, u][j]? = some v → (w.alloc (.cells #[x, y, z, u] t)).cell? ((⟨w.heap.size, 0, none⟩ : Addr).add j) = some v := by
  intro j v hj
  have hadd : (⟨w.heap.size, 0, none⟩ : Addr).add j = ⟨w.heap.size, j, none⟩ := by unfold Addr.add; split <;> simp_all
  rw [hadd]
  unfold World.cell?
  rw [heap_alloc_new]
  match j, hj with
  | 0, hj => simpa using hj
  | 1, hj => simpa using hj
  | 2, hj => simpa using hj
  | 3, hj => simpa using hj
  | n + 4, hj => simp at hj

end Go.Proofs.YthpkcageimhgaaaDoor
