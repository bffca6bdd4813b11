/- Package fold: shownWords. Package fold: shownWords, walked. Package fold: Check: what its loop over the rounds comes to. Package fold: Check. Package fold: Check, walked. Package fold: Check answers as it must. -/
import Derived.Test.YtfppkjpgihnibaaGreatDoorFogs
import Derived.Test.YtfppkjpgihnibaaGreatDoorTrgx
namespace Go.Proofs.YtfppkjpgihnibaaGreatDoor
open Go.RowKit

section
variable {P : Program} {ops : Array Oper} {Q : Exit → Act → World → Prop} {md : Region.Mode} {S : World → Prop}
theorem drop_at {i : Nat} {oi : Oper} {rest : List Oper} (hl : ops.toList.drop i = oi :: rest) : ops[i]? = some oi := by
  have := congrArg (fun l => l[0]?) hl
  simpa [List.getElem?_drop] using this
/-- an operation is taken first; it is handed over written out -/
theorem wpAnyH_takeL {i : Nat} {oi : Oper} {rest : List Oper} {v : Value} {fuel : Nat} {listed : Array Bool} {a : Act} {w : World} (hl : ops.toList.drop i = oi :: rest)
    (hs : Region.noSelect ops = true) (hf : Region.free md ops listed i = true) (hr : (Region.ready md ops listed).contains i = true)
    (hQ : ∀ c a w, Q (.panic c) (a.put oi.dst v) w → Q (.panic c) a w) (hw : Region.wanted oi (yielded ops a.tmps) = true) (hy : ∀ w, S w → (execOp a.eval oi).run P w = .ok (.value v) w) (hS : S w)
    (h : wpAnyH P md ops Q S fuel (listed.setIfInBounds i true) (a.put oi.dst v) w) : wpAnyH P md ops Q S (fuel + 1) listed a w :=
  wpAnyH_take (drop_at hl) hs hf hr hQ (Or.inl ⟨hw, hy⟩) hS h
theorem AllReadyH.consL {fuel : Nat} {listed : Array Bool} {a : Act} {w : World} {i : Nat} {o : Oper} {rest : List Oper} {rs : List Nat} (hl : ops.toList.drop i = o :: rest)
    (h : ∀ K' : Act → World → Prop, Shut (∀ a w, S w → (S w → wpAnyH P md ops Q S fuel (listed.setIfInBounds i true) a w) → K' a w) → if Region.wanted o (yielded ops a.tmps) = true then Oper.wp P o a w K' Q else K' (a.put o.dst undef) w)
    (hs : AllReadyH P md ops Q S fuel listed a w rs) : AllReadyH P md ops Q S fuel listed a w (i :: rs) := AllReadyH.cons (drop_at hl) h hs
end

/-- a function of a round, in its boxes -/
def BxA (N : Nat) (o : OnZ) (w0 W : World) (u : Value) : Prop := ∃ Bo Br ap cp ar cr vn, u = .func (.func 111) #[] #[.pointer (some ⟨Bo, 0, none⟩), .pointer (some ⟨Br, 0, none⟩)] ∧ W.heap[Bo]? = some (.cells #[.slice ap o.ps.length cp, .slice ar o.rows.length cr, vn] 107 (0, 0)) ∧ W.heap[Br]? = some (.cells #[.int .i64 (N : Int)] 3 (0, 0)) ∧ Lst w0.heap.size w0 ap cp o.ps ∧ LstR w0.heap.size w0 ar cr o.rows
theorem BxA.kept {N : Nat} {o : OnZ} {w0 W W' : World} {u : Value} (h : BxA N o w0 W u) (k : KO W W') : BxA N o w0 W' u := by
  obtain ⟨Bo, Br, ap, cp, ar, cr, vn, h1, h2, h3, h4, h5⟩ := h
  exact ⟨Bo, Br, ap, cp, ar, cr, vn, h1, (k.2 _ _ _ h2).trans h2, (k.1.2 _ _ _ _ h3 (.inl rfl)).trans h3, h4, h5⟩
/-- the block of a row is of its kind -/
theorem owns_kind {w : World} {base n : Nat} {e : TypeId} {v : Value} {xs : List Value} (h : w.ownsRow base e 1 v n xs) {g : Nat} (hg : v.ownBlock = some g) : ∃ cs, w.heap[g]? = some (.cells cs e (0, 0)) := by
  rcases h.2 with ⟨rfl, _⟩ | ⟨g', cap, cur, rfl, _, h2, _⟩
  · cases hg
  · cases hg
    exact ⟨cur, h2⟩
/-- what shownWords stands on -/
structure ShP (q n dd b s bs K m : Nat) (r t : Int) (roots : List (List Int)) (last : List Int) (os : List OnZ) (pl : List Int) (a1 a2 a3 al : Option Addr) (c1 c2 c3 cl : Nat) (ds : List Nat) (go co : Nat) (w : World) : Prop where
  ok : SpgOk q n dd
  sp : SpgAt w s bs q n dd
  fb : FdB roots last os
  fd : FdL w a1 a2 a3 c1 c2 c3 roots last os
  rl : roots.length = m
  dm : DmL q b K m r t w ds
  ov : ∀ k, k ≤ m → w.cell? ⟨go, k, none⟩ = some (.pointer (some ⟨ds.getD k 0, 0, none⟩))
  hK : K ≤ 16
  hm : m + 1 ≤ K
  pl1 : pl.length ≤ 1000
  pl2 : ∀ j, j < pl.length → 0 ≤ zat pl j ∧ zat pl j ≤ 9223372036854775807
  lp : Lst w.heap.size w al cl pl

end Go.Proofs.YtfppkjpgihnibaaGreatDoor

namespace Go.Proofs.YtfppkjpgihnibaaGreatDoor
open Go.RowKit

end Go.Proofs.YtfppkjpgihnibaaGreatDoor

namespace Go.Proofs.YtfppkjpgihnibaaGreatDoor
open Go.RowKit

end Go.Proofs.YtfppkjpgihnibaaGreatDoor

namespace Go.Proofs.YtfppkjpgihnibaaGreatDoor
open Go.RowKit

/-- what stands in Check while the chain goes on -/
structure CkZ (N0 q n dd b d s bs c K m : Nat) (r t : Int) (a1 a2 a3 : Option Addr) (c1 c2 c3 : Nat) (roots : List (List Int)) (last : List Int) (os : List OnZ) (ds : List Nat) (go gb : Nat) (Dc : List Int) (by' : Nat → Int) (W wr : World) : Prop where
  gr : W.grownBy wr (some c)
  pc : PCh N0 q n wr c Dc
  fb : wr.heap[W.heap.size]? = some (.cells #[.slice a1 m c1, .slice a2 last.length c2, .slice a3 os.length c3] 36 (0, 0))
  fd : FdC W a1 a2 a3 c1 c2 c3 roots last os
  ct : ∃ cs f, W.heap[c]? = some (.cells cs 94 f)
  dm : DmL q b K (m) r t wr ds
  dh : ∀ i, 1 ≤ i → i ≤ m → W.heap.size ≤ ds.getD i 0
  ov : ∀ k, k ≤ m → wr.cell? ⟨go, k, none⟩ = some (.pointer (some ⟨ds.getD k 0, 0, none⟩))
  og : W.heap.size ≤ go
  bg : W.heap.size ≤ gb
  br : ArrI wr gb 3 (m) by'
  lt : c < W.heap.size
  bc : b ≠ c
  dz : ∀ W', Below N0 W W' → DO W' q b d (2 ^ K) r t
  d0 : ds.getD 0 0 = d
  nc : N0 ≤ c
section
variable {N0 q n dd b d s bs c K m : Nat} {r t : Int} {a1 a2 a3 : Option Addr} {c1 c2 c3 : Nat} {roots : List (List Int)} {last : List Int} {os : List OnZ} {ds : List Nat} {go gb : Nat} {Dc Dc' : List Int} {by' : Nat → Int} {W wr wr' : World}
theorem PCh.typ (h : PCh N0 q n wr c Dc) : ∃ cs f, wr.heap[c]? = some (.cells cs 94 f) := by
  obtain ⟨s, b, d, _, _, _, _, _, h1⟩ := h
  exact ⟨_, _, h1⟩
/-- the chain's turn -/
theorem CkZ.turn (h : CkZ N0 q n dd b d s bs c K m r t a1 a2 a3 c1 c2 c3 roots last os ds go gb Dc by' W wr) (g : wr.grownBy wr' (some c)) (p : PCh N0 q n wr' c Dc') : CkZ N0 q n dd b d s bs c K m r t a1 a2 a3 c1 c2 c3 roots last os ds go gb Dc' by' W wr' := by
  have hlt := h.lt
  have hgr := gb_trans h.gr g
  refine ⟨hgr, p, (gb_blk g (Array.getElem?_eq_some_iff.1 h.fb).1 (by omega)).trans h.fb, h.fd, h.ct, ⟨h.dm.len, fun i hi => ?_⟩, h.dh, fun k hk => ?_, h.og, h.bg, h.br.block (gb_blk g h.br.lt (by have := h.bg; omega)), h.lt, h.bc, h.dz, h.d0, h.nc⟩
  · rcases Nat.eq_zero_or_pos i with rfl | hi0
    · rw [h.d0]
      exact h.dz _ (gb_to hgr h.nc (by have := h.nc; omega))
    · exact (h.dm.dom i hi).gb g h.bc (by have := h.dh i hi0 hi; omega)
  · have hov := h.ov k hk
    exact (World.cell?_of_block (w := wr) (a := ⟨go, k, none⟩) (gb_blk g (World.block_lt_of_cell? _ _ hov) (by have := h.og; show go ≠ c; omega))).trans hov
/-- nothing of it is touched -/
theorem CkZ.step (h : CkZ N0 q n dd b d s bs c K m r t a1 a2 a3 c1 c2 c3 roots last os ds go gb Dc by' W wr) (e : Below wr.heap.size wr wr') : CkZ N0 q n dd b d s bs c K m r t a1 a2 a3 c1 c2 c3 roots last os ds go gb Dc by' W wr' := h.turn (gb_below e) (h.pc.below e)
/-- a number is written down -/
theorem CkZ.put (h : CkZ N0 q n dd b d s bs c K m r t a1 a2 a3 c1 c2 c3 roots last os ds go gb Dc by' W wr) (hgo : go ≠ gb) (hgw : gb ≠ W.heap.size) (hdg : ∀ i, i ≤ m → ds.getD i 0 ≠ gb) (hbg : b ≠ gb) (i : Nat) (x : Int) {by2 : Nat → Int} (hb2 : ArrI (wr.setCell ⟨gb, i, none⟩ (.int .i64 x)) gb 3 (m) by2) : CkZ N0 q n dd b d s bs c K m r t a1 a2 a3 c1 c2 c3 roots last os ds go gb Dc by2 W (wr.setCell ⟨gb, i, none⟩ (.int .i64 x)) := by
  have hoth : ∀ y, y ≠ gb → (wr.setCell ⟨gb, i, none⟩ (.int .i64 x)).heap[y]? = wr.heap[y]? := fun y hy => Below.heap_setCell _ _ _ _ (by show y ≠ gb; exact hy)
  have hlt := h.lt
  have hbg2 := h.bg
  have hnc := h.nc
  refine ⟨gb_far h.gr h.bg _ _, h.pc.blocks (hoth c (by omega)) (fun y hy => hoth y (by omega)), (hoth _ (by omega)).trans h.fb, h.fd, h.ct, ⟨h.dm.len, fun j hj => ?_⟩, h.dh, fun k hk => ?_, h.og, h.bg, hb2, h.lt, h.bc, h.dz, h.d0, h.nc⟩
  · have hD := h.dm.dom j hj
    refine ⟨hD.pr, hD.h3, hD.hm, (World.cell?_of_block (w := wr) (a := ⟨b, 0, none⟩) (hoth b hbg)).trans hD.hp, ?_, hD.hk, hD.hr0, hD.hr1, hD.ord, hD.hs0, hD.hs1, hD.hsd⟩
    have hk := hoth _ (hdg j hj)
    exact ⟨(World.cell?_of_block (w := wr) (a := ⟨ds.getD j 0, 0, none⟩) hk).trans hD.da.f, (World.cell?_of_block (w := wr) (a := ⟨ds.getD j 0, 1, none⟩) hk).trans hD.da.n, (World.cell?_of_block (w := wr) (a := ⟨ds.getD j 0, 2, none⟩) hk).trans hD.da.r, (World.cell?_of_block (w := wr) (a := ⟨ds.getD j 0, 3, none⟩) hk).trans hD.da.s⟩
  · exact (World.cell?_of_block (w := wr) (a := ⟨go, k, none⟩) (hoth go hgo)).trans (h.ov k hk)
end

end Go.Proofs.YtfppkjpgihnibaaGreatDoor

namespace Go.Proofs.YtfppkjpgihnibaaGreatDoor
open Go.RowKit

end Go.Proofs.YtfppkjpgihnibaaGreatDoor

namespace Go.Proofs.YtfppkjpgihnibaaGreatDoor
open Go.RowKit

end Go.Proofs.YtfppkjpgihnibaaGreatDoor
