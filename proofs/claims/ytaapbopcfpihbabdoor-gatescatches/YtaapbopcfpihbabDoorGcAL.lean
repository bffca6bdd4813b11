/- Package sums: total, allFixed, round. A region that draws its order, walked by hand: what is read is taken first. A region that draws its order, walked by hand: an operation that is not wanted is passed by. -/
import Derived.Test.YtaapbopcfpihbabDoorGcAI
import Derived.Test.YtaapbopcfpihbabDoorSpgs
import Derived.Test.YtaapbopcfpihbabDoorFld
import Derived.OrdersHeld
import Derived.Deep.RegionHeld3
namespace Go.Proofs.YtaapbopcfpihbabDoor
open Go.RowKit

/-- rows of rows that lie in blocks of a kind -/
structure TabP (P : Nat → Prop) (w : World) (a : Option Addr) (cap : Nat) (rows : List (List Int)) : Prop where
  row : ∀ k, k < rows.length → ∃ b o ak ck, a = some ⟨b, o, none⟩ ∧ P b ∧ w.cell? ⟨b, o + k, none⟩ = some (.slice ak (rat rows k).length ck) ∧ RowP P w ak (rat rows k) ∧ (rat rows k).length ≤ ck ∧ (ak = none → ck = 0)
  room : rows.length ≤ cap
  nil : a = none → cap = 0
theorem TabP.lst {P : Nat → Prop} {w : World} {a : Option Addr} {cap n0 : Nat} {rows : List (List Int)} (h : TabP P w a cap rows) (hP : ∀ b, P b → b < n0) : LstR n0 w a cap rows :=
  ⟨fun k hk => by
    obtain ⟨b, o, ak, ck, h1, h2, h3, h4, h5, h6⟩ := h.row k hk
    exact ⟨b, o, ak, ck, h1, hP b h2, h3, ⟨fun j hj => by
      obtain ⟨b', o', g1, g2, g3⟩ := h4 j hj
      exact ⟨b', o', g1, hP b' g2, g3⟩, h5, h6⟩⟩, h.room, h.nil⟩
theorem TabP.keep {P : Nat → Prop} {w w' : World} {a : Option Addr} {cap : Nat} {rows : List (List Int)} (h : TabP P w a cap rows) (e : ∀ b, P b → w'.heap[b]? = w.heap[b]?) : TabP P w' a cap rows :=
  ⟨fun k hk => by
    obtain ⟨b, o, ak, ck, h1, h2, h3, h4, h5, h6⟩ := h.row k hk
    exact ⟨b, o, ak, ck, h1, h2, (World.cell?_of_block (w := w) (a := ⟨b, o + k, none⟩) (e b h2)).trans h3, fun j hj => by
      obtain ⟨b', o', g1, g2, g3⟩ := h4 j hj
      exact ⟨b', o', g1, g2, (World.cell?_of_block (w := w) (a := ⟨b', o' + j, none⟩) (e b' g2)).trans g3⟩, h5, h6⟩, h.room, h.nil⟩
theorem TabP.imp {P Q : Nat → Prop} {w : World} {a : Option Addr} {cap : Nat} {rows : List (List Int)} (h : TabP P w a cap rows) (e : ∀ b, P b → Q b) : TabP Q w a cap rows :=
  ⟨fun k hk => by
    obtain ⟨b, o, ak, ck, h1, h2, h3, h4, h5, h6⟩ := h.row k hk
    exact ⟨b, o, ak, ck, h1, e b h2, h3, fun j hj => by
      obtain ⟨b', o', g1, g2, g3⟩ := h4 j hj
      exact ⟨b', o', g1, e b' g2, g3⟩, h5, h6⟩, h.room, h.nil⟩

theorem ArrI.rowE {w : World} {g n n0 : Nat} {t : TypeId} {f : Nat → Int} (h : ArrI w g t n f) {zs : List Int} (hn : zs.length = n) (hz : ∀ j, j < n → zat zs j = f j) (hg : g < n0) : RowB n0 w (some ⟨g, 0, none⟩) zs := fun k hk => ⟨g, 0, rfl, hg, by rw [Nat.zero_add, h.cell (by omega), hz k (by omega)]⟩
theorem ArrI.lst {w : World} {g n n0 : Nat} {t : TypeId} {f : Nat → Int} (h : ArrI w g t n f) {zs : List Int} (hn : zs.length = n) (hz : ∀ j, j < n → zat zs j = f j) (hg : g < n0) : Lst n0 w (some ⟨g, 0, none⟩) n zs := ⟨h.rowE hn hz hg, by omega, fun e => by cases e⟩

end Go.Proofs.YtaapbopcfpihbabDoor

namespace Go.Proofs.YtaapbopcfpihbabDoor
open Go.RowKit

section
variable {P : Program} {ops : Array Oper} {Q : Exit → Act → World → Prop} {md : Region.Mode} {S : World → Prop}
theorem drop_atU {i : Nat} {oi : Oper} {rest : List Oper} (hl : ops.toList.drop i = oi :: rest) : ops[i]? = some oi := by
  have := congrArg (fun l => l[0]?) hl
  simpa [List.getElem?_drop] using this
theorem wpAnyH_takeU {i : Nat} {oi : Oper} {rest : List Oper} {v : Value} {fuel : Nat} {listed : Array Bool} {a : Act} {w : World} (hl : ops.toList.drop i = oi :: rest)
    (hs : Region.noSelect ops = true) (hf : Region.free md ops listed i = true) (hr : (Region.ready md ops listed).contains i = true)
    (hQ : ∀ c a w, Q (.panic c) (a.put oi.dst v) w → Q (.panic c) a w) (hw : Region.wanted oi (yielded ops a.tmps) = true) (hy : ∀ w, S w → (execOp a.eval oi).run P w = .ok (.value v) w) (hS : S w)
    (h : wpAnyH P md ops Q S fuel (listed.setIfInBounds i true) (a.put oi.dst v) w) : wpAnyH P md ops Q S (fuel + 1) listed a w :=
  wpAnyH_take (drop_atU hl) hs hf hr hQ (Or.inl ⟨hw, hy⟩) hS h
theorem AllReadyH.consU {fuel : Nat} {listed : Array Bool} {a : Act} {w : World} {i : Nat} {o : Oper} {rest : List Oper} {rs : List Nat} (hl : ops.toList.drop i = o :: rest)
    (h : ∀ K' : Act → World → Prop, Shut (∀ a w, S w → (S w → wpAnyH P md ops Q S fuel (listed.setIfInBounds i true) a w) → K' a w) → if Region.wanted o (yielded ops a.tmps) = true then Oper.wp P o a w K' Q else K' (a.put o.dst undef) w)
    (hs : AllReadyH P md ops Q S fuel listed a w rs) : AllReadyH P md ops Q S fuel listed a w (i :: rs) := AllReadyH.cons (drop_atU hl) h hs
end
theorem rg_appendU {o : Oper} {a : Act} {w w2 : World} {K : Act → World → Prop} {Q : Exit → Act → World → Prop} (s x : Operand) (tS tX : TypeId)
    (ho : o.op = .call { callee := .builtin .append, args := #[s, x], argTypes := #[tS, tX] }) (v u r : Value) (hs : a.eval s = v) (hx : a.eval x = u) (hrun : (Builtin.append_ #[tS, tX] o.type #[v, u]).run Tryd.prog w = .ok r w2)
    (h : K (a.put o.dst r) w2) : Oper.wp Tryd.prog o a w K Q := by
  unfold Oper.wp
  simp [execOp, ho, resolve, invoke, builtin, hs, hx, hrun, Result.andThen]
  exact h

end Go.Proofs.YtaapbopcfpihbabDoor

namespace Go.Proofs.YtaapbopcfpihbabDoor
open Go.RowKit

section
variable {P : Program} {ops : Array Oper} {Q : Exit → Act → World → Prop} {md : Region.Mode} {S : World → Prop}
end

end Go.Proofs.YtaapbopcfpihbabDoor
