/- Programs as text, plainly: what is read lies behind. Package source: expressions in brackets, with commas between. -/
import Derived.Test.YthpkcageimhgaaaDoorSqAA
import Derived.Test.YthpkcageimhgaaaDoorSrM
import Derived.Maps.AppendAt
namespace Go.Proofs.YthpkcageimhgaaaDoor

/-- behind a place, if it is a result -/
def Res.Fx {α : Type} (N a : Nat) : Res α → Prop
  | .ok _ j => a ≤ j ∧ j ≤ N
  | .bad _ _ => True
  | .out => True
theorem Res.Fw.x {α : Type} {N a : Nat} {r : Res α} (h : r.Fw N a) : r.Fx N a := by
  cases r with
  | ok x j => exact h
  | bad e at' => trivial
  | out => trivial
theorem Res.Fx.bind {α β : Type} {N a b : Nat} {r : Res α} {f : α → Nat → Res β} (h : r.Fx N a) (hf : ∀ x j, r = .ok x j → a ≤ j → j ≤ N → (f x j).Fx N b) : (r.bind f).Fx N b := by
  cases r with
  | ok x j => exact hf x j rfl h.1 h.2
  | bad e at' => trivial
  | out => trivial
theorem Res.Fx.mono {α : Type} {N a b : Nat} {r : Res α} (h : r.Fx N a) (hb : b ≤ a) : r.Fx N b := by
  cases r with
  | ok x j => exact ⟨Nat.le_trans hb h.1, h.2⟩
  | bad e at' => trivial
  | out => trivial
theorem pTake_fx (L : List UInt8) (k a : Nat) (h : a ≤ L.length) (hk : k ≠ 1) : (pTake L k a).Fx L.length (a + 1) := (pTake_fw L k a h hk).x
theorem pEnter_fx (L : List UInt8) (k a l : Nat) (h : a ≤ L.length) (hk : k ≠ 1) : (pEnter L k a l).Fx L.length (a + 1) := (pEnter_fw L k a l h hk).x
theorem pName_fx (L : List UInt8) (a : Nat) (h : a ≤ L.length) : (pName L a).Fx L.length (a + 1) := (pName_fw L a h).x
theorem pNum_fx (L : List UInt8) (a : Nat) (h : a ≤ L.length) : (pNum L a).Fx L.length (a + 1) := (pNum_fw L a h).x

/-- what is read lies behind -/
theorem p_fx (L : List UInt8) : ∀ (f : Nat),
    (∀ a l, a ≤ L.length  → (pExpr L f a l).Fx L.length (a + 1)) ∧
    (∀ a l, a ≤ L.length  → (pSum L f a l).Fx L.length (a + 1)) ∧
    (∀ x a l, a ≤ L.length  → (pSumL L f x a l).Fx L.length a) ∧
    (∀ a l, a ≤ L.length  → (pProd L f a l).Fx L.length (a + 1)) ∧
    (∀ x a l, a ≤ L.length  → (pProdL L f x a l).Fx L.length a) ∧
    (∀ a l, a ≤ L.length  → (pPart L f a l).Fx L.length (a + 1)) ∧
    (∀ a l, a ≤ L.length  → (pList L f a l).Fx L.length (a + 1)) ∧
    (∀ xs a l, a ≤ L.length  → (pArgs L f xs a l).Fx L.length a)
  | 0 => by
    refine ⟨?_, ?_, ?_, ?_, ?_, ?_, ?_, ?_⟩
    all_goals (intros; first | (rw [pExpr]; trivial) | (rw [pSum]; trivial) | (rw [pSumL]; trivial) | (rw [pProd]; trivial) | (rw [pProdL]; trivial) | (rw [pPart]; trivial) | (rw [pList]; trivial) | (rw [pArgs]; trivial))
  | f + 1 => by
    obtain ⟨iE, iS, iSL, iP, iPL, iX, iLs, iA⟩ := p_fx L f
    refine ⟨?_, ?_, ?_, ?_, ?_, ?_, ?_, ?_⟩
    · intro a l ha
      rw [pExpr]
      split
      · refine (pEnter_fx L 5 a l ha (by decide)).bind fun _ a1 _ h1 m1 => ?_
        refine (pName_fx L a1 m1).bind fun nm a2 _ h2 m2 => ?_
        refine (pTake_fx L 14 a2 m2 (by decide)).bind fun _ a3 _ h3 m3 => ?_
        refine (iE a3 _ m3).bind fun _ a4 _ h4 m4 => ?_
        refine (pTake_fx L 13 a4 m4 (by decide)).bind fun _ a5 _ h5 m5 => ?_
        refine (iE a5 _ m5).bind fun _ a6 _ h6 m6 => ?_
        exact ⟨by omega, m6⟩
      · split
        · refine (pEnter_fx L 6 a l ha (by decide)).bind fun _ a1 _ h1 m1 => ?_
          refine (iS a1 _ m1).bind fun _ a2 _ h2 m2 => ?_
          refine (pTake_fx L 15 a2 m2 (by decide)).bind fun _ a3 _ h3 m3 => ?_
          refine (iS a3 _ m3).bind fun _ a4 _ h4 m4 => ?_
          refine (pTake_fx L 13 a4 m4 (by decide)).bind fun _ a5 _ h5 m5 => ?_
          refine (iE a5 _ m5).bind fun _ a6 _ h6 m6 => ?_
          exact ⟨by omega, m6⟩
        · split
          · refine (pEnter_fx L 7 a l ha (by decide)).bind fun _ a1 _ h1 m1 => ?_
            refine (iE a1 _ m1).bind fun _ a2 _ h2 m2 => ?_
            refine (pTake_fx L 8 a2 m2 (by decide)).bind fun _ a3 _ h3 m3 => ?_
            refine (iE a3 _ m3).bind fun _ a4 _ h4 m4 => ?_
            refine (pTake_fx L 9 a4 m4 (by decide)).bind fun _ a5 _ h5 m5 => ?_
            refine (iE a5 _ m5).bind fun _ a6 _ h6 m6 => ?_
            exact ⟨by omega, m6⟩
          · refine (iS a l ha).bind fun _ a1 _ h1 m1 => ?_
            split
            · rename_i hk
              obtain ⟨h2, m2⟩ := nx_fw L a1 15 m1 hk (by decide)
              refine (iS _ l m2).bind fun _ a3 _ h3 m3 => ?_
              exact ⟨by omega, m3⟩
            · exact ⟨h1, m1⟩
    · intro a l ha
      rw [pSum]
      refine (iP a l ha).bind fun x a1 _ h1 m1 => ?_
      exact (iSL x a1 l m1).mono h1
    · intro x a l ha
      rw [pSumL]
      split
      · rename_i hk
        obtain ⟨h2, m2⟩ := nx_fw L a 16 ha hk (by decide)
        refine (iP _ l m2).bind fun _ a3 _ h3 m3 => ?_
        exact (iSL _ a3 l m3).mono (by omega)
      · split
        · rename_i hk
          obtain ⟨h2, m2⟩ := nx_fw L a 17 ha hk (by decide)
          refine (iP _ l m2).bind fun _ a3 _ h3 m3 => ?_
          exact (iSL _ a3 l m3).mono (by omega)
        · exact ⟨Nat.le_refl _, ha⟩
    · intro a l ha
      rw [pProd]
      refine (iX a l ha).bind fun x a1 _ h1 m1 => ?_
      exact (iPL x a1 l m1).mono h1
    · intro x a l ha
      rw [pProdL]
      split
      · rename_i hk
        obtain ⟨h2, m2⟩ := nx_fw L a 18 ha hk (by decide)
        refine (iX _ l m2).bind fun _ a3 _ h3 m3 => ?_
        exact (iPL _ a3 l m3).mono (by omega)
      · split
        · rename_i hk
          obtain ⟨h2, m2⟩ := nx_fw L a 19 ha hk (by decide)
          refine (iX _ l m2).bind fun _ a3 _ h3 m3 => ?_
          exact (iPL _ a3 l m3).mono (by omega)
        · exact ⟨Nat.le_refl _, ha⟩
    · intro a l ha
      rw [pPart]
      split
      · refine (pName_fx L a ha).bind fun nm a1 _ h1 m1 => ?_
        split
        · refine (iLs a1 l m1).bind fun xs a2 _ h2 m2 => ?_
          exact ⟨by omega, m2⟩
        · exact ⟨h1, m1⟩
      · split
        · refine (pEnter_fx L 10 a l ha (by decide)).bind fun _ a1 _ h1 m1 => ?_
          refine (iE a1 _ m1).bind fun _ a2 _ h2 m2 => ?_
          refine (pTake_fx L 11 a2 m2 (by decide)).bind fun _ a3 _ h3 m3 => ?_
          exact ⟨by omega, m3⟩
        · split
          · refine (pEnter_fx L 17 a l ha (by decide)).bind fun _ a1 _ h1 m1 => ?_
            refine (iX a1 _ m1).bind fun _ a2 _ h2 m2 => ?_
            exact ⟨by omega, m2⟩
          · exact pNum_fx L a ha
    · intro a l ha
      rw [pList]
      refine (pEnter_fx L 10 a l ha (by decide)).bind fun _ a1 _ h1 m1 => ?_
      refine Res.Fx.bind (a := a1) ?_ fun xs a3 _ h3 m3 => ?_
      · split
        · exact ⟨Nat.le_refl _, m1⟩
        · refine (iE a1 _ m1).bind fun x a2 _ h2 m2 => ?_
          exact (iA _ a2 _ m2).mono (by omega)
      · refine (pTake_fx L 11 a3 m3 (by decide)).bind fun _ a4 _ h4 m4 => ?_
        exact ⟨by omega, m4⟩
    · intro xs a l ha
      rw [pArgs]
      split
      · rename_i hk
        obtain ⟨h2, m2⟩ := nx_fw L a 12 ha hk (by decide)
        refine (iE _ l m2).bind fun _ a3 _ h3 m3 => ?_
        exact (iA _ a3 l m3).mono (by omega)
      · exact ⟨Nat.le_refl _, ha⟩

theorem pNames_fx (L : List UInt8) : ∀ (f : Nat) (xs : List (List UInt8 × Nat)) (a : Nat), a ≤ L.length → (pNames L f xs a).Fx L.length a
  | 0, _, _, _ => by rw [pNames]; trivial
  | f + 1, xs, a, ha => by
    rw [pNames]
    split
    · rename_i hk
      obtain ⟨h2, m2⟩ := nx_fw L a 12 ha hk (by decide)
      refine (pName_fx L _ m2).bind fun x j _ h3 m3 => ?_
      exact (pNames_fx L f _ j m3).mono (by omega)
    · exact ⟨Nat.le_refl _, ha⟩
theorem pBrack_fx (L : List UInt8) (f a : Nat) (ha : a ≤ L.length) : (pBrack L f a).Fx L.length (a + 1) := by
  unfold pBrack
  refine (pTake_fx L 10 a ha (by decide)).bind fun _ a1 _ h1 m1 => ?_
  refine Res.Fx.bind (a := a1) ?_ fun xs a3 _ h3 m3 => ?_
  · split
    · exact ⟨Nat.le_refl _, m1⟩
    · refine (pName_fx L a1 m1).bind fun x a2 _ h2 m2 => ?_
      exact (pNames_fx L f _ a2 m2).mono (by omega)
  · refine (pTake_fx L 11 a3 m3 (by decide)).bind fun _ a4 _ h4 m4 => ?_
    exact ⟨by omega, m4⟩
theorem pFun_fx (L : List UInt8) (f a : Nat) (ha : a ≤ L.length) : (pFun L f a).Fx L.length (a + 1) := by
  unfold pFun
  refine (pTake_fx L 4 a ha (by decide)).bind fun _ a1 _ h1 m1 => ?_
  refine (pName_fx L a1 m1).bind fun nm a2 _ h2 m2 => ?_
  refine (pBrack_fx L f a2 m2).bind fun more a3 _ h3 m3 => ?_
  refine (pTake_fx L 14 a3 m3 (by decide)).bind fun _ a4 _ h4 m4 => ?_
  refine ((p_fx L f).1 a4 0 m4).bind fun x a5 _ h5 m5 => ?_
  exact ⟨by omega, m5⟩

end Go.Proofs.YthpkcageimhgaaaDoor

namespace Go.Proofs.YthpkcageimhgaaaDoor
open Go.RowKit

/-- expressions in a row of the call's own -/
def RowT (base : Nat) (w : World) (v : Value) (ts : List Tr) : Prop := ∃ vals : List Value, w.ownsRow base 38 1 v ts.length vals ∧ ∀ (i : Nat) t, ts[i]? = some t → ∃ u, vals[i]? = some u ∧ PTB (fun b => base ≤ b ∧ some b ≠ v.ownBlock) w t u
theorem ownsRow_fr {R base : Nat} {w w' : World} {e : TypeId} {k : Nat} {v : Value} {n : Nat} {xs : List Value} (h : w.ownsRow base e k v n xs) (f : Fr R w w') (hb : R < base) : w'.ownsRow base e k v n xs := by
  refine ⟨h.1, ?_⟩
  rcases h.2 with hn | ⟨g, cap, cur, h1, hbs, hg, rest⟩
  · exact .inl hn
  · exact .inr ⟨g, cap, cur, h1, hbs, (f.2 g (Array.getElem?_eq_some_iff.1 hg).1 (by omega)).trans hg, rest⟩
theorem RowT.fr {R base : Nat} {w w' : World} {v : Value} {ts : List Tr} (h : RowT base w v ts) (f : Fr R w w') (hb : R < base) : RowT base w' v ts := by
  obtain ⟨vals, h1, h2⟩ := h
  refine ⟨vals, ownsRow_fr h1 f hb, fun i t ht => ?_⟩
  obtain ⟨u, h3, h4⟩ := h2 i t ht
  exact ⟨u, h3, PTB.keep (fun b hB hl => ⟨hB, f.2 b hl (by omega)⟩) t u h4⟩
theorem RowT.nil (base : Nat) (w : World) : RowT base w (.slice none 0 0) [] := ⟨[], World.ownsRow_nil _ _ _ _, fun i t ht => by simp at ht⟩
theorem RowT.form {base : Nat} {w : World} {v : Value} {ts : List Tr} (h : RowT base w v ts) : ∃ a c, v = .slice a ts.length c := by
  obtain ⟨vals, h1, _⟩ := h
  rcases h1.2 with ⟨rfl, h0⟩ | ⟨g, cap, cur, rfl, _⟩
  · exact ⟨none, 0, by rw [h0]⟩
  · exact ⟨_, _, rfl⟩
/-- one more -/
theorem RowT.push {base : Nat} {W w2 : World} {v v' : Value} {ts : List Tr} {t : Tr} {u : Value} {vals : List Value} (h1 : W.ownsRow base 38 1 v ts.length vals) (h2 : ∀ (i : Nat) t, ts[i]? = some t → ∃ u, vals[i]? = some u ∧ PTB (fun b => base ≤ b ∧ some b ≠ v.ownBlock) W t u)
    (hu : PTB (fun b => base ≤ b ∧ some b ≠ v.ownBlock) W t u) (ho : w2.ownsRow base 38 1 v' (ts.length + 1) (vals ++ [u])) (hg : W.grownBy w2 v.ownBlock) (hw : v'.ownBlock = v.ownBlock ∨ v'.ownBlock = some W.heap.size) : RowT base w2 v' (ts ++ [t]) := by
  have hk : ∀ b, (base ≤ b ∧ some b ≠ v.ownBlock) → b < W.heap.size → (base ≤ b ∧ some b ≠ v'.ownBlock) ∧ w2.heap[b]? = W.heap[b]? := fun b hB hl => by
    refine ⟨⟨hB.1, ?_⟩, hg.block b hl hB.2⟩
    rcases hw with e | e
    · rw [e]; exact hB.2
    · rw [e]; intro e2; injection e2; omega
  have hlen : vals.length = ts.length := by have := h1.1; omega
  refine ⟨vals ++ [u], by rw [List.length_append]; exact ho, fun i x hx => ?_⟩
  rcases Nat.lt_or_ge i ts.length with hi | hi
  · rw [List.getElem?_append_left hi] at hx
    obtain ⟨y, h3, h4⟩ := h2 i x hx
    exact ⟨y, by rw [List.getElem?_append_left (by omega)]; exact h3, PTB.keep hk x y h4⟩
  · have hi2 : i = ts.length := by
      have : i < (ts ++ [t]).length := (List.getElem?_eq_some_iff.1 hx).1
      simp at this
      omega
    subst hi2
    simp at hx
    subst hx
    exact ⟨u, by rw [← hlen]; simp, PTB.keep hk t u hu⟩
/-- what list gives -/
def VL (lo : Nat) : World → Value → List Tr → Prop := fun w v ts => ∃ a c, v = .slice a ts.length c ∧ PTs lo w a ts 0
theorem RowT.vl {base : Nat} {w : World} {v : Value} {ts : List Tr} (h : RowT base w v ts) : VL base w v ts := by
  obtain ⟨vals, h1, h2⟩ := h
  rcases h1.2 with ⟨rfl, h0⟩ | ⟨g, cap, cur, rfl, hbs, _⟩
  · obtain rfl : ts = [] := List.length_eq_zero_iff.1 h0
    exact ⟨none, 0, rfl, trivial⟩
  · refine ⟨_, _, rfl, PTBs_of hbs ts 0 fun j hj => ?_⟩
    obtain ⟨u, h3, h4⟩ := h2 j ts[j] (by simp [hj])
    have h5 := h1.cells (g := g) rfl j u h3
    have hadd : (⟨g, 0, none⟩ : Addr).add j = ⟨g, 0 + j, none⟩ := by unfold Addr.add; split <;> simp_all
    rw [hadd] at h5
    refine ⟨u, h5, fun t ht => ?_⟩
    simp [hj] at ht
    subst ht
    exact PTB.keep (fun b hB _ => ⟨hB.1, rfl⟩) _ _ h4
/-- where the reader is, by the world -/
def rdm (R : Nat) (w : World) : Nat := match w.cell? ⟨R, 2, none⟩ with
  | some (.int _ n) => n.toNat
  | _ => 0
theorem RdAt.rdm {w : World} {R : Nat} {T : ByteArray} {j l : Nat} (h : RdAt w R T j l) : rdm R w = (tok (by' T) j).at' := by
  unfold Go.Proofs.YthpkcageimhgaaaDoor.rdm
  have : w.cell? ⟨R, 2, none⟩ = some (.int .i64 ((tok (by' T) j).at' : Int)) := by simp [World.cell?, h.h]
  rw [this]
  simp
theorem Fr.grown {R : Nat} {w W w2 : World} {o : Option Nat} (f : Fr R w W) (hg : W.grownBy w2 o) (ho : ∀ k, o = some k → w.heap.size ≤ k) (hR : R < w.heap.size) : Fr R w w2 := by
  refine ⟨⟨hg.os.trans f.1.os, hg.tape.trans f.1.tape, hg.output.trans f.1.output, Nat.le_trans f.size hg.size, fun b hb => ?_⟩, fun b hb hne => ?_⟩
  · exact (hg.block b (by have := f.size; omega) (fun e => by have := ho b e.symm; omega)).trans (f.1.block b hb)
  · exact (hg.block b (by have := f.size; omega) (fun e => by have := ho b e.symm; omega)).trans (f.2 b hb hne)

end Go.Proofs.YthpkcageimhgaaaDoor
