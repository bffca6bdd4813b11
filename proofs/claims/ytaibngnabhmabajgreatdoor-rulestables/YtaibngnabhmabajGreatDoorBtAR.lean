/- Package rules: the pairs of a row. attestref8: Each. attestref1.Unlike: whether all of a list are unlike, as elements. A cell appended to a list of the call's own, of any length. A region that draws its order, walked by hand: what is read is taken first. -/
import Derived.Test.YtaibngnabhmabajGreatDoorBtAP
import Derived.Test.YtaibngnabhmabajGreatDoorTres
import Derived.StillTailTactics
import Derived.Test.YtaibngnabhmabajGreatDoorPls
import Derived.Deep.QuietTactic
import Derived.BigQuiet
import Derived.Test.YtaibngnabhmabajGreatDoorFld
import Derived.OrdersHeld
import Derived.Deep.RegionHeld3
namespace Go.Proofs.YtaibngnabhmabajGreatDoor
open Go.RowKit

/-- the pairs of a row -/
def rw4 (r : List Int) (a v : Nat) : List (Int × Int) := (List.range 4).map fun j => (zat r (a + j), zat r (v + j))
theorem rw4_len (r : List Int) (a v : Nat) : (rw4 r a v).length = 4 := by simp [rw4]
/-- .. the first k of them -/
def fillP (r : List Int) (a v k : Nat) : List (Int × Int) := (List.range 4).map fun j => if j < k then (zat r (a + j), zat r (v + j)) else (0, 0)
theorem fillP_len (r : List Int) (a v k : Nat) : (fillP r a v k).length = 4 := by simp [fillP]
theorem fillP_full (r : List Int) (a v : Nat) : fillP r a v 4 = rw4 r a v := rfl
theorem fillP_set (r : List Int) (a v k : Nat) (h : k < 4) : (fillP r a v k).set k (zat r (a + k), zat r (v + k)) = fillP r a v (k + 1) := by
  have : k = 0 ∨ k = 1 ∨ k = 2 ∨ k = 3 := by omega
  rcases this with rfl | rfl | rfl | rfl <;> rfl
theorem fillP_zero (r : List Int) (a v : Nat) : fillP r a v 0 = List.replicate 4 (0, 0) := rfl
theorem made4 : (madeCells (Value.agg #[.int .i64 0, .int .i64 0]).cells (4 * 2)).toList = celv (List.replicate 4 (0, 0)) := by kernel_rfl

set_option maxRecDepth 100000 in
set_option maxHeartbeats 2000000 in
theorem rowPairs_any (c a v : Nat) (ad : Option Addr) (r : List Int) (w : World) (hL : RowB w.heap.size w ad r) (hn : r.length ≤ 17592186044416) (ha : a + 4 ≤ r.length) (hv : v + 4 ≤ r.length) :
    Calls Tryz.prog 135 #[.slice ad r.length c, .int .i64 (a : Int), .int .i64 (v : Int)] w fun e w' => ∃ K, e = .returned (.slice (some ⟨K, 0, none⟩) 4 4) ∧ w.heap.size ≤ K ∧ CRow K w' (rw4 r a v) ∧ Below w.heap.size w w' := by
  have hmx : Tryz.prog.follows .mixedOrders = true := by kernel_rfl
  obtain ⟨i0, hi, hz0, hz1, hz2⟩ := info_parts (show (Tryz.prog.info? 149).map (fun i => (i.zero, i.size, i.bytes)) = some (some (.agg #[.int .i64 0, .int .i64 0]), 2, 16) by kernel_rfl)
  have HR := hid hL
  obtain ⟨n, hn'⟩ : ∃ n, n = r.length := ⟨_, rfl⟩
  have HN := hid hn'
  rw [← hn'] at hn ha hv ⊢
  clear hL hn'
  go_enter Tryz.func135, Tryz.ntmps135
  go_wp2_with (refine wpList_make_full _ rfl _ _ _ rfl w.heap.size 149 i0 _ 2 Tryz.underlying64 hi hz0 hz1 .i64 .i64 4 4 4 rfl rfl rfl rfl (by rw [hz2]; omega) (by decide) (Nat.le_refl _) ?_)
  intro w1 hown hgr
  have hb1 : Below w.heap.size w w1 := ⟨hgr.os, hgr.tape, hgr.output, hgr.size, fun k hk => hgr.block k hk (by simp)⟩
  have hcr : CelR w.heap.size w1 (.slice (some ⟨w.heap.size, 0, none⟩) 4 4) (fillP r a v 0) := by
    unfold CelR
    rw [fillP_zero, ← made4]
    exact hown
  rcases crow_of_owns hcr with ⟨h0, _⟩ | ⟨g, cap, hsl, hg, _, hrow⟩
  · cases h0
  have hgw : g = w.heap.size := by injection hsl with e1; injection e1 with e1; injection e1 with e1; exact e1.symm
  subst hgw
  have HR0 := hid hrow
  have HB0 := hid hb1
  obtain ⟨K, hK⟩ : ∃ K, K = w.heap.size := ⟨_, rfl⟩
  rw [← hK] at HR0 ⊢
  have HK := hid hK
  clear hown hgr hb1 hcr hsl hg hrow hK
  go_wp2_with fail
  go_loopw [8, 12] (fun _ iv wr => ∃ k : Nat, k ≤ 4 ∧ iv = .int .i64 k ∧ Hid (CRow K wr (fillP r a v k)) ∧ Hid (Below w.heap.size w wr)) (fun _ iv _ => 4 - (intOf iv).toNat)
  case atStart => exact ⟨0, by omega, rfl, HR0, HB0⟩
  case round =>
    obtain ⟨k, hk, rfl, HRw, HBw⟩ := hrel
    by_cases hlt : k < 4
    · have hlt2 : (k : Int) < 4 := by omega
      have hks : IntKind.i64.wrap ((k : Int) + 1) = (k : Int) + 1 := by rw [IntKind.wrap_i64]; omega
      obtain ⟨ia, hia⟩ : ∃ ia, ia = a + k := ⟨_, rfl⟩
      obtain ⟨iv, hiv⟩ : ∃ iv, iv = v + k := ⟨_, rfl⟩
      have e1 : (a : Int) + (k : Int) = (ia : Int) := by omega
      have e2 : (v : Int) + (k : Int) = (iv : Int) := by omega
      have w1' : IntKind.i64.wrap (ia : Int) = (ia : Int) := by rw [IntKind.wrap_i64]; omega
      have w2' : IntKind.i64.wrap (iv : Int) = (iv : Int) := by rw [IntKind.wrap_i64]; omega
      have l1 : (ia : Int) < (n : Int) := by omega
      have l2 : (iv : Int) < (n : Int) := by omega
      obtain ⟨b, o, rfl, hb, c1⟩ := HR.out ia (by have := HN.out; omega)
      obtain ⟨b', o', hbo, _, c2⟩ := HR.out iv (by have := HN.out; omega)
      injection hbo with hbo
      injection hbo with hb' ho'
      subst hb' ho'
      replace c1 := (HBw.out.cell (p := ⟨b, o + ia, none⟩) hb).trans c1
      replace c2 := (HBw.out.cell (p := ⟨b, o + iv, none⟩) hb).trans c2
      obtain ⟨q0, q1⟩ := HRw.out.cells k (by rw [fillP_len]; exact hlt)
      have f0 := HRw.out.soft (k * 2)
      have f1 := HRw.out.soft (k * 2 + 1)
      have q0' : ∀ d, ({ wr with drawn := d } : World).cell? ⟨K, k * 2, none⟩ = some (.int .i64 (cat (fillP r a v k) k).1) := fun _ => q0
      have q1' : ∀ d, ({ wr with drawn := d } : World).cell? ⟨K, k * 2 + 1, none⟩ = some (.int .i64 (cat (fillP r a v k) k).2) := fun _ => q1
      have f0' : ∀ d, ({ wr with drawn := d } : World).frozen? ⟨K, k * 2, none⟩ = false := fun _ => f0
      have f1' : ∀ d, ({ wr with drawn := d } : World).frozen? ⟨K, k * 2 + 1, none⟩ = false := fun _ => f1
      have HRd : CRow K wr.drew (fillP r a v k) := HRw.out.block rfl
      have HBd : Below w.heap.size w wr.drew := HBw.out.drew
      have HST : Hid (CRow K ((wr.drew.setCell ⟨K, k * 2, none⟩ (.int .i64 (zat r ia))).setCell ⟨K, k * 2 + 1, none⟩ (.int .i64 (zat r iv))) (fillP r a v (k + 1))) := by
        have := HRd.set (zat r ia, zat r iv) (k := k) (by rw [fillP_len]; exact hlt)
        rw [hia, hiv, fillP_set _ _ _ _ hlt] at this
        rw [hia, hiv]
        exact this
      have HBS : Hid (Below w.heap.size w ((wr.drew.setCell ⟨K, k * 2, none⟩ (.int .i64 (zat r ia))).setCell ⟨K, k * 2 + 1, none⟩ (.int .i64 (zat r iv)))) := (HBd.setCell (p := ⟨K, k * 2, none⟩) (by show w.heap.size ≤ K; rw [HK.out]; exact Nat.le_refl _) _).setCell (p := ⟨K, k * 2 + 1, none⟩) (by show w.heap.size ≤ K; rw [HK.out]; exact Nat.le_refl _) _
      generalize zat r ia = za at *
      generalize zat r iv = zv at *
      generalize (cat (fillP r a v k) k).1 = y0 at *
      generalize (cat (fillP r a v k) k).2 = y1 at *
      clear hia hiv HRw HBw HRd HBd
      go_wp2_with fail
      go_still_tail 16, hmx
      go_wp2_with fail
      go_roundw
      case rel => exact ⟨k + 1, by omega, by go_num, HST, HBS⟩
      case measure => simp [intOf]; omega
    · obtain rfl : k = 4 := by omega
      go_wp2_with fail
      go_ret
      exact ⟨K, rfl, by rw [HK.out]; exact Nat.le_refl _, by rw [← fillP_full]; exact HRw.out, HBw.out⟩

end Go.Proofs.YtaibngnabhmabajGreatDoor

namespace Go.Proofs.YtaibngnabhmabajGreatDoor
open Go.RowKit

end Go.Proofs.YtaibngnabhmabajGreatDoor

namespace Go.Proofs.YtaibngnabhmabajGreatDoor
open Go.RowKit

end Go.Proofs.YtaibngnabhmabajGreatDoor

namespace Go.Proofs.YtaibngnabhmabajGreatDoor
open Go.RowKit

/-- append(l, c): a cell more -/
theorem wpList_celB {ops : Array Oper} {rest : List Oper} {o : Oper} {act : Act} {Q : Exit → Act → World → Prop} (W : World) (hgd : o.guard = none) (s x : Operand)
    (ho : o.op = .call { callee := .builtin .append, args := #[s, x], argTypes := #[64, 64] }) (v : Value) (base : Nat) (l : List (Int × Int)) (z0 z1 : Int)
    (hown : CelR base W v l) (hs : act.eval s = v) (hx : act.eval x = .slice (some ⟨W.heap.size, 0, none⟩) 1 1) (hlen : l.length ≤ 8796093021952) (hbase : base ≤ W.heap.size)
    (h : ∀ v' w2, CelR base w2 v' (l ++ [(z0, z1)]) → Below base W w2 → W.grownBy w2 v.ownBlock → wpList Tryz.prog ops Q rest (act.put o.dst v') w2) :
    wpList Tryz.prog ops Q (o :: rest) act (W.alloc (.cells #[.int .i64 z0, .int .i64 z1] 149)) := by
  obtain ⟨cs, hcs⟩ : ∃ cs, cs = #[Value.int .i64 z0, .int .i64 z1] := ⟨_, rfl⟩
  rw [← hcs]
  have hbw : Below W.heap.size W (W.alloc (.cells cs 149)) := (Below.refl _ _).alloc (Nat.le_refl _) _
  obtain ⟨i0, hi, hz0, hz1, hz2⟩ := info_parts (show (Tryz.prog.info? 149).map (fun i => (i.zero, i.size, i.bytes)) = some (some (.agg #[.int .i64 0, .int .i64 0]), 2, 16) by kernel_rfl)
  have h1 : (W.alloc (.cells cs 149)).ownsRow base 149 2 v l.length (celv l) := World.ownsRow.alloc hown _
  refine wpList_append_own _ hgd s x 64 ho base 149 i0 _ 2 16 Tryz.underlying64 hi hz0 hz1 hz2 rfl (by decide) _ _ _ hs h1 ⟨W.heap.size, 0, none⟩ 1 1 cs.toList hx (by rw [hcs]; rfl) ?_ ?_ (by unfold maxLen; omega) (by omega) (by simp; omega) ?_
  · intro j t hj
    have hc : (W.alloc (.cells cs 149)).heap[W.heap.size]? = some (.cells cs 149 (0, 0)) := heap_alloc_new W _
    have hadd : (⟨W.heap.size, 0, none⟩ : Addr).add j = ⟨W.heap.size, j, none⟩ := by unfold Addr.add; split <;> simp_all
    rw [hadd]
    simp only [World.cell?, hc]
    simpa using hj
  · intro t ht
    rw [hcs] at ht
    have ht2 : t = .int .i64 z0 ∨ t = .int .i64 z1 := by simpa using ht
    rcases ht2 with rfl | rfl <;> rfl
  · intro v' w2 hown2 hgrow _
    have hB0 : Below base (W.alloc (.cells cs 149)) w2 := (Below.refl base _).grown hgrow (by simp; omega) (fun k hk => (h1.lt k hk).1)
    refine h v' w2 ?_ ((hbw.mono hbase).trans hB0) ⟨hgrow.os, hgrow.tape, hgrow.output, by have := hgrow.size; simp at this; omega, fun k hk hne => (hgrow.block k (by simp; omega) hne).trans (hbw.block k hk)⟩
    unfold CelR
    rw [celv_app, List.length_append]
    rw [hcs] at hown2
    simpa [celv] using hown2
/-- cells of the call's own stay, where nothing below turns -/
theorem CelR.belowB {base n : Nat} {w w' : World} {v : Value} {l : List (Int × Int)} (h : CelR base w v l) (hb : Below n w w') (hn : w.heap.size ≤ n) : CelR base w' v l := by
  have hs := hb.size
  refine World.ownsRow.kept (row := none) h ⟨hb.os, hb.tape, hb.output, hs, fun k hk _ => hb.block k (by omega)⟩ (by cases v.ownBlock <;> simp)

end Go.Proofs.YtaibngnabhmabajGreatDoor

namespace Go.Proofs.YtaibngnabhmabajGreatDoor
open Go.RowKit

section
variable {P : Program} {ops : Array Oper} {Q : Exit → Act → World → Prop} {md : Region.Mode} {S : World → Prop}
theorem drop_atU {i : Nat} {oi : Oper} {rest : List Oper} (hl : ops.toList.drop i = oi :: rest) : ops[i]? = some oi := by
  have := congrArg (fun l => l[0]?) hl
  simpa [List.getElem?_drop] using this
theorem wpAnyH_takeU {i : Nat} {oi : Oper} {rest : List Oper} {v : Value} {fuel : Nat} {listed : Array Bool} {a : Act} {w : World} (hl : ops.toList.drop i = oi :: rest)
    (hs : Region.noSelect ops = true) (hf : Region.free md ops listed i = true) (hr : (Region.ready md ops listed).contains i = true)
    (hQ : ∀ c a w, Q (.panic c) (a.put oi.dst v) w → Q (.panic c) a w) (hw : Region.wanted oi (yielded ops a.tmps) = true) (hy : ∀ w, S w → (execOp a.eval oi).run P w = .ok (.value v) w) (hS : S w)
    (h : wpAnyH P md ops Q S fuel (listed.setIfInBounds i true) (a.put oi.dst v) w) : wpAnyH P md ops Q S (fuel + 1) listed a w :=
  wpAnyH_take (drop_atU hl) hs hf hr hQ (Or.inl ⟨hw, hy⟩) hS h
theorem AllReadyH.consU {fuel : Nat} {listed : Array Bool} {a : Act} {w : World} {i : Nat} {o : Oper} {rest : List Oper} {rs : List Nat} (hl : ops.toList.drop i = o :: rest)
    (h : ∀ K' : Act → World → Prop, Shut (∀ a w, S w → (S w → wpAnyH P md ops Q S fuel (listed.setIfInBounds i true) a w) → K' a w) → if Region.wanted o (yielded ops a.tmps) = true then Oper.wp P o a w K' Q else K' (a.put o.dst undef) w)
    (hs : AllReadyH P md ops Q S fuel listed a w rs) : AllReadyH P md ops Q S fuel listed a w (i :: rs) := AllReadyH.cons (drop_atU hl) h hs
end
theorem rg_appendU {o : Oper} {a : Act} {w w2 : World} {K : Act → World → Prop} {Q : Exit → Act → World → Prop} (s x : Operand) (tS tX : TypeId)
    (ho : o.op = .call { callee := .builtin .append, args := #[s, x], argTypes := #[tS, tX] }) (v u r : Value) (hs : a.eval s = v) (hx : a.eval x = u) (hrun : (Builtin.append_ #[tS, tX] o.type #[v, u]).run Tryz.prog w = .ok r w2)
    (h : K (a.put o.dst r) w2) : Oper.wp Tryz.prog o a w K Q := by
  unfold Oper.wp
  simp [execOp, ho, resolve, invoke, builtin, hs, hx, hrun, Result.andThen]
  exact h

end Go.Proofs.YtaibngnabhmabajGreatDoor
