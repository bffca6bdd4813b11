/- What fold.Check must answer; attestref5.Check of anything. Arguments of type api.Folded, opened. -/
import Derived.Test.YtcajofdmadpmoaaDoorFolL
import Derived.Test.YtcajofdmadpmoaaDoorChnF
import Derived.Test.YtcajofdmadpmoaaDoorOpenR
namespace Go.Proofs.YtcajofdmadpmoaaDoor
open Go.RowKit

/-- rows in blocks of their own kinds -/
structure LRT (w : World) (a : Option Addr) (cap : Nat) (s : List (List Int)) : Prop where
  row : ∀ k, k < s.length → ∃ b o ak ck, a = some ⟨b, o, none⟩ ∧ (∃ cs f, w.heap[b]? = some (.cells cs 22 f)) ∧ w.cell? ⟨b, o + k, none⟩ = some (.slice ak (rat s k).length ck) ∧ NumL w ak ck (rat s k)
  room : s.length ≤ cap
  nil : a = none → cap = 0
theorem NumL.ki {w w' : World} {a : Option Addr} {c : Nat} {l : List Int} (h : NumL w a c l) (k : KI w w') : NumL w' a c l := h.blocks k.1 (fun g cs f hg => k.2 g cs _ f hg (.inl rfl))
theorem LRT.ki {w w' : World} {a : Option Addr} {cap : Nat} {s : List (List Int)} (h : LRT w a cap s) (k : KI w w') : LRT w' a cap s :=
  ⟨fun j hj => by
    obtain ⟨b, o, ak, ck, h1, ⟨cs, f, h2⟩, h3, h4⟩ := h.row j hj
    have e := k.2 b cs _ f h2 (.inr rfl)
    exact ⟨b, o, ak, ck, h1, ⟨cs, f, e.trans h2⟩, (World.cell?_of_block (w := w) (a := ⟨b, o + j, none⟩) e).trans h3, h4.ki k⟩, h.room, h.nil⟩
theorem LRT.lst {w : World} {a : Option Addr} {cap : Nat} {s : List (List Int)} (h : LRT w a cap s) : LstR w.heap.size w a cap s :=
  ⟨fun j hj => by
    obtain ⟨b, o, ak, ck, h1, ⟨cs, f, h2⟩, h3, h4⟩ := h.row j hj
    exact ⟨b, o, ak, ck, h1, (Array.getElem?_eq_some_iff.1 h2).1, h3, h4.1⟩, h.room, h.nil⟩
/-- Openings in blocks of their own kinds -/
structure LFT (w : World) (a : Option Addr) (cap : Nat) (s : List OnZ) : Prop where
  row : ∀ k, k < s.length → ∃ b o ap cp ar cr an' cn, a = some ⟨b, o, none⟩ ∧ (∃ cs f, w.heap[b]? = some (.cells cs 28 f)) ∧ w.cell? ⟨b, o + k * 3, none⟩ = some (.slice ap (onat s k).ps.length cp) ∧ w.cell? ⟨b, o + k * 3 + 1, none⟩ = some (.slice ar (onat s k).rows.length cr) ∧ w.cell? ⟨b, o + k * 3 + 2, none⟩ = some (.slice an' (onat s k).nodes.length cn) ∧ NumL w ap cp (onat s k).ps ∧ LRT w ar cr (onat s k).rows ∧ LRT w an' cn (onat s k).nodes
  room : s.length ≤ cap
  nil : a = none → cap = 0
theorem LFT.ko {w w' : World} {a : Option Addr} {cap : Nat} {s : List OnZ} (h : LFT w a cap s) (k : KO w w') : LFT w' a cap s :=
  ⟨fun j hj => by
    obtain ⟨b, o, ap, cp, ar, cr, an', cn, h1, ⟨cs, f, h2⟩, h3, h4, h5, h6, h7, h8⟩ := h.row j hj
    have e := k.2 b cs f h2
    exact ⟨b, o, ap, cp, ar, cr, an', cn, h1, ⟨cs, f, e.trans h2⟩, (World.cell?_of_block (w := w) (a := ⟨b, o + j * 3, none⟩) e).trans h3, (World.cell?_of_block (w := w) (a := ⟨b, o + j * 3 + 1, none⟩) e).trans h4, (World.cell?_of_block (w := w) (a := ⟨b, o + j * 3 + 2, none⟩) e).trans h5, h6.ki k.1, h7.ki k.1, h8.ki k.1⟩, h.room, h.nil⟩
theorem LFT.lst {w : World} {a : Option Addr} {cap : Nat} {s : List OnZ} (h : LFT w a cap s) : LstF w.heap.size w a cap s :=
  ⟨fun j hj => by
    obtain ⟨b, o, ap, cp, ar, cr, an', cn, h1, ⟨cs, f, h2⟩, h3, h4, h5, h6, h7, h8⟩ := h.row j hj
    exact ⟨b, o, ap, cp, ar, cr, an', cn, h1, (Array.getElem?_eq_some_iff.1 h2).1, h3, h4, h5, h6.1, h7.lst, h8.lst⟩, h.room, h.nil⟩
/-- a Folded in memory -/
structure FdAt (w : World) (a1 a2 a3 : Option Addr) (c1 c2 c3 : Nat) (roots : List (List Int)) (last : List Int) (os : List OnZ) : Prop where
  r : LRT w a1 c1 roots
  l : NumL w a2 c2 last
  o : LFT w a3 c3 os
theorem FdAt.ko {w w' : World} {a1 a2 a3 : Option Addr} {c1 c2 c3 : Nat} {roots : List (List Int)} {last : List Int} {os : List OnZ} (h : FdAt w a1 a2 a3 c1 c2 c3 roots last os) (k : KO w w') : FdAt w' a1 a2 a3 c1 c2 c3 roots last os := ⟨h.r.ki k.1, h.l.ki k.1, h.o.ko k⟩
/-- a Folded that can be read -/
structure FdL (w : World) (a1 a2 a3 : Option Addr) (c1 c2 c3 : Nat) (roots : List (List Int)) (last : List Int) (os : List OnZ) : Prop where
  r : LstR w.heap.size w a1 c1 roots
  l : Lst w.heap.size w a2 c2 last
  o : LstF w.heap.size w a3 c3 os
/-- it isn't too great -/
structure FdB (roots : List (List Int)) (last : List Int) (os : List OnZ) : Prop where
  r1 : roots.length ≤ 5864062014634
  r2 : ∀ k, k < roots.length → (rat roots k).length ≤ 17592186043904
  r3 : FitsR roots
  l1 : last.length ≤ 17592186043904
  l2 : Fits last
  o1 : os.length ≤ 1954687338211
  o2 : ∀ k, k < os.length → (onat os k).ps.length ≤ 17592186043904 ∧ (onat os k).rows.length ≤ 5864062014634 ∧ (onat os k).nodes.length ≤ 5864062014634 ∧ (∀ j, j < (onat os k).rows.length → (rat (onat os k).rows j).length ≤ 17592186043904) ∧ (∀ j, j < (onat os k).nodes.length → (rat (onat os k).nodes j).length ≤ 17592186043904) ∧ Fits (onat os k).ps ∧ FitsR (onat os k).rows ∧ FitsR (onat os k).nodes
theorem FdB.f5 {roots : List (List Int)} {last : List Int} {os : List OnZ} (h : FdB roots last os) : FitsF5 os := fun k hk => by
  obtain ⟨h1, h2, h3, _, _, _, h7, h8⟩ := h.o2 k hk
  exact ⟨by omega, by omega, by omega, h7, h8⟩

end Go.Proofs.YtcajofdmadpmoaaDoor

namespace Go.Proofs.YtcajofdmadpmoaaDoor
open Go.ChangeShapes Go.WideShapes Go.RowKit Go.Deep

instance : Inhabited OnZ := ⟨⟨[], [], []⟩⟩
/-- a datum of Openings -/
def OnsDat {H : Type} (d : DataW H) (s : List OnZ) : Prop := (d = .nil ∧ s = []) ∨ ∃ elems spare, d = .slice elems spare ∧ elems.length = s.length ∧ ∀ k, k < s.length → ∃ dk, elems[k]? = some dk ∧ OpenDat dk (onat s k).ps (onat s k).rows (onat s k).nodes
/-- numbers that fit -/
def FitsN (s : List OnZ) : Prop := ∀ k, k < s.length → Fits (onat s k).ps ∧ (∀ j, j < (onat s k).rows.length → Fits (rat (onat s k).rows j)) ∧ (∀ j, j < (onat s k).nodes.length → Fits (rat (onat s k).nodes j))
theorem list3F {α : Type} {l : List α} (h : l.length = 3) : ∃ a b c, l = [a, b, c] := by
  match l, h with
  | [a, b, c], _ => exact ⟨a, b, c, rfl⟩

set_option maxRecDepth 100000 in
theorem open_onsV {H : Type} {enc : TypeId × Value → H} {W : World} {v : Value} {fuel : Nat} {y : DataW H × List MemPlace} (hf : DataW.trod enc Tryd.prog W 0 (fun _ => true) true fuel 24 [v] = some y) :
    ∃ (a : Option Addr) (cap : Nat) (s : List OnZ), v = .slice a s.length cap ∧ LstF W.heap.size W a cap s ∧ FitsN s ∧ OnsDat y.1 s := by
  rcases open_slice Tryd.underlying24 hf with ⟨hcs, hx⟩ | ⟨x, l, c, m, n, D, Pl, hcs, _, hl, hm, hmm, hx, hall⟩
  · have hv := List.head_eq_of_cons_eq hcs
    subst hv
    refine ⟨none, 0, [], rfl, ⟨fun k hk => by simp at hk, by simp, fun _ => rfl⟩, fun k hk => by simp at hk, Or.inl ⟨by rw [hx], rfl⟩⟩
  · have hv := List.head_eq_of_cons_eq hcs
    subst hv
    simp only [if_true] at hmm
    subst hmm
    have each : ∀ i, i < m → ∃ y : OnZ × (Option Addr × Nat) × (Option Addr × Nat) × (Option Addr × Nat), W.cell? (x.add (i * 3)) = some (.slice y.2.1.1 y.1.ps.length y.2.1.2) ∧ W.cell? (x.add (i * 3 + 1)) = some (.slice y.2.2.1.1 y.1.rows.length y.2.2.1.2) ∧ W.cell? (x.add (i * 3 + 2)) = some (.slice y.2.2.2.1 y.1.nodes.length y.2.2.2.2) ∧ Lst W.heap.size W y.2.1.1 y.2.1.2 y.1.ps ∧ LstR W.heap.size W y.2.2.1.1 y.2.2.1.2 y.1.rows ∧ LstR W.heap.size W y.2.2.2.1 y.2.2.2.2 y.1.nodes ∧
        (Fits y.1.ps ∧ (∀ j, j < y.1.rows.length → Fits (rat y.1.rows j)) ∧ (∀ j, j < y.1.nodes.length → Fits (rat y.1.nodes j))) ∧ OpenDat (D i) y.1.ps y.1.rows y.1.nodes := fun i hi => by
      obtain ⟨cs', h1, h2⟩ := hall i hi
      rw [show Tryd.prog.cellsOf 28 = 3 from by kernel_rfl] at h1
      obtain ⟨_, hlen, hcell⟩ := World.cells?_some h1
      obtain ⟨v0, v1, v2, rfl⟩ := list3F hlen
      obtain ⟨y0, y1, y2, n', hxx, _, g0, g1, g2⟩ := trod_struct3 Tryd.underlying28 h2
      have e0 := hcell 0 (by omega)
      have e1 := hcell 1 (by omega)
      have e2 := hcell 2 (by omega)
      rw [add_add] at e0 e1 e2
      have k1 : Tryd.prog.cellsOf 23 = 1 := by kernel_rfl
      have k2 : Tryd.prog.cellsOf 22 = 1 := by kernel_rfl
      simp only [k1, k2] at g0 g1 g2
      obtain ⟨a0, c0, zs, p0, l0, f0, dd0⟩ := open_listV (by simpa using g0)
      obtain ⟨a1, c1, rs, p1, l1, f1, dd1⟩ := open_rowsV (by simpa using g1)
      obtain ⟨a2, c2, ns, p2, l2, f2, dd2⟩ := open_rowsV (by simpa using g2)
      subst p0
      subst p1
      subst p2
      simp only [Prod.mk.injEq] at hxx
      exact ⟨⟨⟨zs, rs, ns⟩, (a0, c0), (a1, c1), (a2, c2)⟩, by simpa using e0, by simpa using e1, by simpa using e2, l0, l1, l2, ⟨f0, f1, f2⟩, _, _, _, hxx.1, dd0, dd1, dd2⟩
    obtain ⟨Y, hY⟩ := choose_lt each
    obtain ⟨s, hs⟩ : ∃ s : List OnZ, s = (List.range l).map fun r => (Y r).1 := ⟨_, rfl⟩
    have hlen : s.length = l := by rw [hs]; simp
    have hoat : ∀ k, k < l → onat s k = (Y k).1 := fun k hk => by
      rw [hs]
      unfold onat
      simp [hk]
    refine ⟨some x, m, s, by rw [hlen], ⟨fun k hk => ?_, by omega, fun e => by cases e⟩, fun k hk => ?_, Or.inr ⟨_, _, by rw [hx], by rw [hlen]; simp, fun k hk => ?_⟩⟩
    · rw [hlen] at hk
      obtain ⟨h1, h2, h3, h4, h5, h6, _⟩ := hY k (by omega)
      obtain ⟨b, o, rfl⟩ := addr_of_cell (v := .slice (Y 0).2.1.1 (Y 0).1.ps.length (Y 0).2.1.2) (by have := (hY 0 (by omega)).1; simpa using this)
      rw [add_plain] at h1 h2 h3
      rw [hoat k hk]
      exact ⟨b, o, _, _, _, _, _, _, rfl, blk_of_cell h1, h1, by rw [Nat.add_assoc]; exact h2, by rw [Nat.add_assoc]; exact h3, h4, h5, h6⟩
    · rw [hlen] at hk
      obtain ⟨_, _, _, _, _, _, hf', _⟩ := hY k (by omega)
      rw [hoat k hk]
      exact hf'
    · rw [hlen] at hk
      obtain ⟨_, _, _, _, _, _, _, hd⟩ := hY k (by omega)
      rw [hoat k hk]
      exact ⟨D k, by simp [hk], hd⟩

/-- a Folded's datum -/
def FoldDat {H : Type} (d : DataW H) (roots : List (List Int)) (last : List Int) (s : List OnZ) : Prop := ∃ d0 d1 d2, d = .agg [d0, d1, d2] ∧ RowsDat d0 roots ∧ ListDat d1 last ∧ OnsDat d2 s
end Go.Proofs.YtcajofdmadpmoaaDoor
