/- Package rules: the pairs of a row. attestref8: Each. attestref1.Unlike: whether all of a list are unlike, as elements. A cell appended to a list of the call's own, of any length. A region that draws its order, walked by hand: what is read is taken first. Package rules: all pairs, sorted. Package rules: Alike; the reference's pairs. -/
import Derived.Test.YtdpdmgmeieijaaaGreatDoorSndAP
import Derived.Test.YtdpdmgmeieijaaaGreatDoorTres
import Derived.StillTailTactics
import Derived.Test.YtdpdmgmeieijaaaGreatDoorPls
import Derived.Deep.QuietTactic
import Derived.BigQuiet
import Derived.Test.YtdpdmgmeieijaaaGreatDoorFld
import Derived.OrdersHeld
import Derived.Deep.RegionHeld3
import Derived.Maps.AppendAt
namespace Go.Proofs.YtdpdmgmeieijaaaGreatDoor
open Go.RowKit

/-- the pairs of a row -/
def rw4 (r : List Int) (a v : Nat) : List (Int × Int) := (List.range 4).map fun j => (zat r (a + j), zat r (v + j))
theorem rw4_len (r : List Int) (a v : Nat) : (rw4 r a v).length = 4 := by simp [rw4]
/-- .. the first k of them -/
def fillP (r : List Int) (a v k : Nat) : List (Int × Int) := (List.range 4).map fun j => if j < k then (zat r (a + j), zat r (v + j)) else (0, 0)
theorem fillP_len (r : List Int) (a v k : Nat) : (fillP r a v k).length = 4 := by simp [fillP]
theorem fillP_full (r : List Int) (a v : Nat) : fillP r a v 4 = rw4 r a v := rfl
theorem fillP_set (r : List Int) (a v k : Nat) (h : k < 4) : (fillP r a v k).set k (zat r (a + k), zat r (v + k)) = fillP r a v (k + 1) := by
  have : k = 0 ∨ k = 1 ∨ k = 2 ∨ k = 3 := by omega
  rcases this with rfl | rfl | rfl | rfl <;> rfl
theorem fillP_zero (r : List Int) (a v : Nat) : fillP r a v 0 = List.replicate 4 (0, 0) := rfl
theorem made4 : (madeCells (Value.agg #[.int .i64 0, .int .i64 0]).cells (4 * 2)).toList = celv (List.replicate 4 (0, 0)) := by kernel_rfl

set_option maxRecDepth 100000 in
set_option maxHeartbeats 2000000 in
theorem rowPairs_any (c a v : Nat) (ad : Option Addr) (r : List Int) (w : World) (hL : RowB w.heap.size w ad r) (hn : r.length ≤ 17592186044416) (ha : a + 4 ≤ r.length) (hv : v + 4 ≤ r.length) :
    Calls Tryz.prog 32 #[.slice ad r.length c, .int .i64 (a : Int), .int .i64 (v : Int)] w fun e w' => ∃ K, e = .returned (.slice (some ⟨K, 0, none⟩) 4 4) ∧ w.heap.size ≤ K ∧ CRow K w' (rw4 r a v) ∧ Below w.heap.size w w' := by
  have hmx : Tryz.prog.follows .mixedOrders = true := by kernel_rfl
  obtain ⟨i0, hi, hz0, hz1, hz2⟩ := info_parts (show (Tryz.prog.info? 58).map (fun i => (i.zero, i.size, i.bytes)) = some (some (.agg #[.int .i64 0, .int .i64 0]), 2, 16) by kernel_rfl)
  have HR := hid hL
  obtain ⟨n, hn'⟩ : ∃ n, n = r.length := ⟨_, rfl⟩
  have HN := hid hn'
  rw [← hn'] at hn ha hv ⊢
  clear hL hn'
  go_enter Tryz.func32, Tryz.ntmps32
  go_wp2_with (refine wpList_make_full _ rfl _ _ _ rfl w.heap.size 58 i0 _ 2 Tryz.underlying34 hi hz0 hz1 .i64 .i64 4 4 4 rfl rfl rfl rfl (by rw [hz2]; omega) (by decide) (Nat.le_refl _) ?_)
  intro w1 hown hgr
  have hb1 : Below w.heap.size w w1 := ⟨hgr.os, hgr.tape, hgr.output, hgr.size, fun k hk => hgr.block k hk (by simp)⟩
  have hcr : CelR w.heap.size w1 (.slice (some ⟨w.heap.size, 0, none⟩) 4 4) (fillP r a v 0) := by
    unfold CelR
    rw [fillP_zero, ← made4]
    exact hown
  rcases crow_of_owns hcr with ⟨h0, _⟩ | ⟨g, cap, hsl, hg, _, hrow⟩
  · cases h0
  have hgw : g = w.heap.size := by injection hsl with e1; injection e1 with e1; injection e1 with e1; exact e1.symm
  subst hgw
  have HR0 := hid hrow
  have HB0 := hid hb1
  obtain ⟨K, hK⟩ : ∃ K, K = w.heap.size := ⟨_, rfl⟩
  rw [← hK] at HR0 ⊢
  have HK := hid hK
  clear hown hgr hb1 hcr hsl hg hrow hK
  go_wp2_with fail
  go_loopw [8, 12] (fun _ iv wr => ∃ k : Nat, k ≤ 4 ∧ iv = .int .i64 k ∧ Hid (CRow K wr (fillP r a v k)) ∧ Hid (Below w.heap.size w wr)) (fun _ iv _ => 4 - (intOf iv).toNat)
  case atStart => exact ⟨0, by omega, rfl, HR0, HB0⟩
  case round =>
    obtain ⟨k, hk, rfl, HRw, HBw⟩ := hrel
    by_cases hlt : k < 4
    · have hlt2 : (k : Int) < 4 := by omega
      have hks : IntKind.i64.wrap ((k : Int) + 1) = (k : Int) + 1 := by rw [IntKind.wrap_i64]; omega
      obtain ⟨ia, hia⟩ : ∃ ia, ia = a + k := ⟨_, rfl⟩
      obtain ⟨iv, hiv⟩ : ∃ iv, iv = v + k := ⟨_, rfl⟩
      have e1 : (a : Int) + (k : Int) = (ia : Int) := by omega
      have e2 : (v : Int) + (k : Int) = (iv : Int) := by omega
      have w1' : IntKind.i64.wrap (ia : Int) = (ia : Int) := by rw [IntKind.wrap_i64]; omega
      have w2' : IntKind.i64.wrap (iv : Int) = (iv : Int) := by rw [IntKind.wrap_i64]; omega
      have l1 : (ia : Int) < (n : Int) := by omega
      have l2 : (iv : Int) < (n : Int) := by omega
      obtain ⟨b, o, rfl, hb, c1⟩ := HR.out ia (by have := HN.out; omega)
      obtain ⟨b', o', hbo, _, c2⟩ := HR.out iv (by have := HN.out; omega)
      injection hbo with hbo
      injection hbo with hb' ho'
      subst hb' ho'
      replace c1 := (HBw.out.cell (p := ⟨b, o + ia, none⟩) hb).trans c1
      replace c2 := (HBw.out.cell (p := ⟨b, o + iv, none⟩) hb).trans c2
      obtain ⟨q0, q1⟩ := HRw.out.cells k (by rw [fillP_len]; exact hlt)
      have f0 := HRw.out.soft (k * 2)
      have f1 := HRw.out.soft (k * 2 + 1)
      have q0' : ∀ d, ({ wr with drawn := d } : World).cell? ⟨K, k * 2, none⟩ = some (.int .i64 (cat (fillP r a v k) k).1) := fun _ => q0
      have q1' : ∀ d, ({ wr with drawn := d } : World).cell? ⟨K, k * 2 + 1, none⟩ = some (.int .i64 (cat (fillP r a v k) k).2) := fun _ => q1
      have f0' : ∀ d, ({ wr with drawn := d } : World).frozen? ⟨K, k * 2, none⟩ = false := fun _ => f0
      have f1' : ∀ d, ({ wr with drawn := d } : World).frozen? ⟨K, k * 2 + 1, none⟩ = false := fun _ => f1
      have HRd : CRow K wr.drew (fillP r a v k) := HRw.out.block rfl
      have HBd : Below w.heap.size w wr.drew := HBw.out.drew
      have HST : Hid (CRow K ((wr.drew.setCell ⟨K, k * 2, none⟩ (.int .i64 (zat r ia))).setCell ⟨K, k * 2 + 1, none⟩ (.int .i64 (zat r iv))) (fillP r a v (k + 1))) := by
        have := HRd.set (zat r ia, zat r iv) (k := k) (by rw [fillP_len]; exact hlt)
        rw [hia, hiv, fillP_set _ _ _ _ hlt] at this
        rw [hia, hiv]
        exact this
      have HBS : Hid (Below w.heap.size w ((wr.drew.setCell ⟨K, k * 2, none⟩ (.int .i64 (zat r ia))).setCell ⟨K, k * 2 + 1, none⟩ (.int .i64 (zat r iv)))) := (HBd.setCell (p := ⟨K, k * 2, none⟩) (by show w.heap.size ≤ K; rw [HK.out]; exact Nat.le_refl _) _).setCell (p := ⟨K, k * 2 + 1, none⟩) (by show w.heap.size ≤ K; rw [HK.out]; exact Nat.le_refl _) _
      generalize zat r ia = za at *
      generalize zat r iv = zv at *
      generalize (cat (fillP r a v k) k).1 = y0 at *
      generalize (cat (fillP r a v k) k).2 = y1 at *
      clear hia hiv HRw HBw HRd HBd
      go_wp2_with fail
      go_still_tail 16, hmx
      go_wp2_with fail
      go_roundw
      case rel => exact ⟨k + 1, by omega, by go_num, HST, HBS⟩
      case measure => simp [intOf]; omega
    · obtain rfl : k = 4 := by omega
      go_wp2_with fail
      go_ret
      exact ⟨K, rfl, by rw [HK.out]; exact Nat.le_refl _, by rw [← fillP_full]; exact HRw.out, HBw.out⟩

end Go.Proofs.YtdpdmgmeieijaaaGreatDoor

namespace Go.Proofs.YtdpdmgmeieijaaaGreatDoor
open Go.RowKit

theorem neq_cel (x y : Int × Int) (w : World) : (binOp BinOp.neq 58 (.agg #[.int .i64 x.1, .int .i64 x.2]) (.agg #[.int .i64 y.1, .int .i64 y.2])).run Tryz.prog w = .ok (.bool (!decide (x = y))) w := by
  obtain ⟨x0, x1⟩ := x
  obtain ⟨y0, y1⟩ := y
  by_cases h0 : x0 = y0
  · by_cases h1 : x1 = y1
    · simp [go_sem, h0, h1]
    · simp [go_sem, h0, h1]
  · simp [go_sem, h0]
end Go.Proofs.YtdpdmgmeieijaaaGreatDoor

namespace Go.Proofs.YtdpdmgmeieijaaaGreatDoor
open Go.RowKit

end Go.Proofs.YtdpdmgmeieijaaaGreatDoor

namespace Go.Proofs.YtdpdmgmeieijaaaGreatDoor
open Go.RowKit

/-- cells of the call's own stay, where nothing below turns -/
theorem CelR.belowB {base n : Nat} {w w' : World} {v : Value} {l : List (Int × Int)} (h : CelR base w v l) (hb : Below n w w') (hn : w.heap.size ≤ n) : CelR base w' v l := by
  have hs := hb.size
  refine World.ownsRow.kept (row := none) h ⟨hb.os, hb.tape, hb.output, hs, fun k hk _ => hb.block k (by omega)⟩ (by cases v.ownBlock <;> simp)

end Go.Proofs.YtdpdmgmeieijaaaGreatDoor

namespace Go.Proofs.YtdpdmgmeieijaaaGreatDoor
open Go.RowKit

section
variable {P : Program} {ops : Array Oper} {Q : Exit → Act → World → Prop} {md : Region.Mode} {S : World → Prop}
theorem drop_atU {i : Nat} {oi : Oper} {rest : List Oper} (hl : ops.toList.drop i = oi :: rest) : ops[i]? = some oi := by
  have := congrArg (fun l => l[0]?) hl
  simpa [List.getElem?_drop] using this
theorem wpAnyH_takeU {i : Nat} {oi : Oper} {rest : List Oper} {v : Value} {fuel : Nat} {listed : Array Bool} {a : Act} {w : World} (hl : ops.toList.drop i = oi :: rest)
    (hs : Region.noSelect ops = true) (hf : Region.free md ops listed i = true) (hr : (Region.ready md ops listed).contains i = true)
    (hQ : ∀ c a w, Q (.panic c) (a.put oi.dst v) w → Q (.panic c) a w) (hw : Region.wanted oi (yielded ops a.tmps) = true) (hy : ∀ w, S w → (execOp a.eval oi).run P w = .ok (.value v) w) (hS : S w)
    (h : wpAnyH P md ops Q S fuel (listed.setIfInBounds i true) (a.put oi.dst v) w) : wpAnyH P md ops Q S (fuel + 1) listed a w :=
  wpAnyH_take (drop_atU hl) hs hf hr hQ (Or.inl ⟨hw, hy⟩) hS h
theorem AllReadyH.consU {fuel : Nat} {listed : Array Bool} {a : Act} {w : World} {i : Nat} {o : Oper} {rest : List Oper} {rs : List Nat} (hl : ops.toList.drop i = o :: rest)
    (h : ∀ K' : Act → World → Prop, Shut (∀ a w, S w → (S w → wpAnyH P md ops Q S fuel (listed.setIfInBounds i true) a w) → K' a w) → if Region.wanted o (yielded ops a.tmps) = true then Oper.wp P o a w K' Q else K' (a.put o.dst undef) w)
    (hs : AllReadyH P md ops Q S fuel listed a w rs) : AllReadyH P md ops Q S fuel listed a w (i :: rs) := AllReadyH.cons (drop_atU hl) h hs
end
theorem rg_appendU {o : Oper} {a : Act} {w w2 : World} {K : Act → World → Prop} {Q : Exit → Act → World → Prop} (s x : Operand) (tS tX : TypeId)
    (ho : o.op = .call { callee := .builtin .append, args := #[s, x], argTypes := #[tS, tX] }) (v u r : Value) (hs : a.eval s = v) (hx : a.eval x = u) (hrun : (Builtin.append_ #[tS, tX] o.type #[v, u]).run Tryz.prog w = .ok r w2)
    (h : K (a.put o.dst r) w2) : Oper.wp Tryz.prog o a w K Q := by
  unfold Oper.wp
  simp [execOp, ho, resolve, invoke, builtin, hs, hx, hrun, Result.andThen]
  exact h

end Go.Proofs.YtdpdmgmeieijaaaGreatDoor

namespace Go.Proofs.YtdpdmgmeieijaaaGreatDoor
open Go.RowKit

/-- a pair as elements -/
def red (p : Nat) (c : Int × Int) : Int × Int := (c.1 % (p : Int), c.2 % (p : Int))
/-- all pairs of rows, as elements -/
def pr4 (p : Nat) (rows : List (List Int)) (a v : Nat) : List (Int × Int) := rows.flatMap fun r => (rw4 r a v).map (red p)
theorem pr4_len (p : Nat) (rows : List (List Int)) (a v : Nat) : (pr4 p rows a v).length = 4 * rows.length := by
  induction rows with
  | nil => rfl
  | cons r rs ih =>
    have : pr4 p (r :: rs) a v = (rw4 r a v).map (red p) ++ pr4 p rs a v := rfl
    rw [this, List.length_append, ih, List.length_map, rw4_len, List.length_cons]
    omega
theorem pr4_take (p : Nat) (rows : List (List Int)) (a v i : Nat) (h : i < rows.length) : pr4 p (rows.take (i + 1)) a v = pr4 p (rows.take i) a v ++ (rw4 (rat rows i) a v).map (red p) := by
  rw [take_succ_rat h]
  unfold pr4
  rw [List.flatMap_append]
  simp
theorem rw4_take (p : Nat) (r : List Int) (a v k : Nat) (h : k < 4) : ((rw4 r a v).take (k + 1)).map (red p) = ((rw4 r a v).take k).map (red p) ++ [(zat r (a + k) % (p : Int), zat r (v + k) % (p : Int))] := by
  have : k = 0 ∨ k = 1 ∨ k = 2 ∨ k = 3 := by omega
  rcases this with rfl | rfl | rfl | rfl <;> rfl
theorem rw4_at (r : List Int) (a v k : Nat) (h : k < 4) : cat (rw4 r a v) k = (zat r (a + k), zat r (v + k)) := by
  have : k = 0 ∨ k = 1 ∨ k = 2 ∨ k = 3 := by omega
  rcases this with rfl | rfl | rfl | rfl <;> rfl
/-- every row has so many elements -/
def allGe (n : Nat) (rows : List (List Int)) : Prop := ∀ k, k < rows.length → n ≤ (rat rows k).length
theorem CRow.grown {K : Nat} {w w' : World} {l : List (Int × Int)} {ob : Option Nat} (h : CRow K w l) (g : w.grownBy w' ob) (hne : some K ≠ ob) : CRow K w' l := h.block (g.block K h.lt hne)

/-- the state of sortedPairs within a row -/
structure SpI (K q i k a v : Nat) (rows : List (List Int)) (uv : Value) (w wr : World) : Prop where
  cel : CelR w.heap.size wr uv (pr4 q (rows.take i) a v ++ ((rw4 (rat rows i) a v).take k).map (red q))
  row : CRow K wr (rw4 (rat rows i) a v)
  ne : some K ≠ uv.ownBlock
  bel : Below w.heap.size w wr

set_option maxRecDepth 100000 in
set_option maxHeartbeats 4000000 in
theorem sortedPairs_any (q b c a v : Nat) (ad : Option Addr) (rows : List (List Int)) (w : World) (h3 : 3 ≤ q) (h4 : q ≤ 2147483647) (hp : w.cell? ⟨b, 0, none⟩ = some (.int .i64 q)) (hL : LstR w.heap.size w ad c rows) (hF : FitsR rows) (hn : rows.length ≤ 2000000000000)
    (hg : allGe 20 rows) (ha : a + 4 ≤ 20) (hv : v + 4 ≤ 20) :
    Calls Tryz.prog 20 #[.pointer (some ⟨b, 0, none⟩), .slice ad rows.length c, .int .i64 (a : Int), .int .i64 (v : Int)] w fun e w' => ∃ uv l', e = .returned uv ∧ l'.Perm (pr4 q rows a v) ∧ l'.Pairwise cle ∧ CelR w.heap.size w' uv l' ∧ Below w.heap.size w w' := by
  have hmx : Tryz.prog.follows .mixedOrders = true := by kernel_rfl
  have hbl : b < w.heap.size := World.block_lt_of_cell? _ _ hp
  have HP := hid hp
  have HL := hid hL
  have HF := hid hF
  have HG := hid hg
  obtain ⟨n, hn'⟩ : ∃ n, n = rows.length := ⟨_, rfl⟩
  have HN := hid hn'
  rw [← hn'] at hn ⊢
  clear hp hL hF hg hn'
  go_enter Tryz.func20, Tryz.ntmps20
  go_wp2_with fail
  go_loopw [9, 11, 13, 16] (fun uv _ _ iv wr => ∃ i : Nat, i ≤ n ∧ iv = .int .i64 i ∧ Hid (CelR w.heap.size wr uv (pr4 q (rows.take i) a v)) ∧ Hid (Below w.heap.size w wr)) (fun _ _ _ iv _ => n - (intOf iv).toNat)
  case atStart => exact ⟨0, Nat.zero_le _, rfl, World.ownsRow_nil _ _ _ _, Below.refl _ _⟩
  case round =>
    obtain ⟨i, hi, rfl, HC, HB⟩ := hrel
    by_cases hlt : i < n
    · have hlt2 : (i : Int) < (n : Int) := by omega
      have his : IntKind.i64.wrap ((i : Int) + 1) = (i : Int) + 1 := by rw [IntKind.wrap_i64]; omega
      obtain ⟨g, o, ak, ck, rfl, hg0, hc, hrl⟩ := HL.out.row i (by have := HN.out; omega)
      replace hc := (HB.out.cell (p := ⟨g, o + i, none⟩) hg0).trans hc
      have hfi := HF.out i (by have := HN.out; omega)
      have hge := HG.out i (by have := HN.out; omega)
      have HRP := hid (rowPairs_any ck a v ak (rat rows i) wr ((hrl.below HB.out).mono HB.out.size).row (by have := hfi.2; omega) (by omega) (by omega))
      have HOW : Hid (∀ k, u9.ownBlock = some k → k < wr.heap.size) := fun k hk => (World.ownsRow.lt HC.out k hk).2
      go_wp2_with fail
      refine HRP.out.mono ?_
      rintro e w2 ⟨K, rfl, hK, hrow, hb2⟩
      have HI0 : Hid (SpI K q i 0 a v rows u9 w w2) := by
        refine ⟨?_, hrow, fun e => ?_, HB.out.trans (hb2.mono HB.out.size)⟩
        · rw [List.take_zero, List.map_nil, List.append_nil]
          exact CelR.belowB HC.out hb2 (Nat.le_refl _)
        · have := HOW.out K e.symm
          omega
      have HLN : Hid ((pr4 q (rows.take i) a v).length ≤ 8000000000000) := by
        unfold Hid
        rw [pr4_len, List.length_take]
        omega
      have HTK : Hid (pr4 q (rows.take (i + 1)) a v = pr4 q (rows.take i) a v ++ (rw4 (rat rows i) a v).map (red q)) := pr4_take q rows a v i (by have := HN.out; omega)
      have HFI : Hid (∀ j, -9223372036854775808 ≤ zat (rat rows i) j ∧ zat (rat rows i) j ≤ 9223372036854775807) := fun j => Fits.all hfi.1 j
      clear hrow hb2 HRP HC HB hc hrl hfi hge HOW hK hg0
      generalize (rat rows i).length = rl
      go_wp2_with fail
      go_loopw [9, 13, 25] (fun uv _ iv wq => ∃ k : Nat, k ≤ 4 ∧ iv = .int .i64 k ∧ Hid (SpI K q i k a v rows uv w wq)) (fun _ _ iv _ => 4 - (intOf iv).toNat)
      case atStart => exact ⟨0, by omega, rfl, HI0⟩
      case round =>
        obtain ⟨k, hk, rfl, HI⟩ := hrel
        by_cases hlk : k < 4
        · have hlk2 : (k : Int) < 4 := by omega
          have hks : IntKind.i64.wrap ((k : Int) + 1) = (k : Int) + 1 := by rw [IntKind.wrap_i64]; omega
          obtain ⟨c0, c1⟩ := HI.out.row.cells k (by rw [rw4_len]; exact hlk)
          rw [rw4_at _ _ _ _ hlk] at c0 c1
          have HT4 := hid (rw4_take q (rat rows i) a v k hlk)
          have b0 := HFI.out (a + k)
          have b1 := HFI.out (v + k)
          simp only at c0 c1
          generalize zat (rat rows i) (a + k) = z0 at *
          generalize zat (rat rows i) (v + k) = z1 at *
          obtain ⟨W1, hW1⟩ : ∃ W1, W1 = wr.alloc (.cells #[.int .i64 z0, .int .i64 z1] 58) := ⟨_, rfl⟩
          have hb1 : Below wr.heap.size wr W1 := by rw [hW1]; exact (Below.refl _ _).alloc (Nat.le_refl _) _
          have hbk : W1.heap[wr.heap.size]? = some (.cells #[.int .i64 z0, .int .i64 z1] 58 (0, 0)) := by rw [hW1]; exact heap_alloc_new wr _
          have x0 : W1.cell? ⟨wr.heap.size, 0, none⟩ = some (.int .i64 z0) := by simp [World.cell?, hbk]
          have x1 : W1.cell? ⟨wr.heap.size, 1, none⟩ = some (.int .i64 z1) := by simp [World.cell?, hbk]
          have hbw : Below w.heap.size w W1 := HI.out.bel.trans (hb1.mono HI.out.bel.size)
          have hpw : W1.cell? ⟨b, 0, none⟩ = some (.int .i64 q) := (hbw.cell (p := ⟨b, 0, none⟩) hbl).trans HP.out
          have HO0 : Hid (∀ W : World, W.cell? ⟨b, 0, none⟩ = some (.int .i64 q) → Calls Tryz.prog 33 #[.pointer (some ⟨b, 0, none⟩), .int .i64 z0] W fun e w' => e = .returned (.int .i64 (z0 % (q : Int))) ∧ w' = W) := fun W h => of_any q b z0 W h3 h4 h b0.1 b0.2
          have HO1 : Hid (∀ W : World, W.cell? ⟨b, 0, none⟩ = some (.int .i64 q) → Calls Tryz.prog 33 #[.pointer (some ⟨b, 0, none⟩), .int .i64 z1] W fun e w' => e = .returned (.int .i64 (z1 % (q : Int))) ∧ w' = W) := fun W h => of_any q b z1 W h3 h4 h b1.1 b1.2
          have HC1 : Hid (CelR w.heap.size W1.drew u9 (pr4 q (rows.take i) a v ++ ((rw4 (rat rows i) a v).take k).map (red q))) := CelR.belowB HI.out.cel (hb1.trans ((Below.refl _ _).drew)) (Nat.le_refl _)
          have HR1 : Hid (CRow K W1.drew (rw4 (rat rows i) a v)) := (HI.out.row.below hb1 HI.out.row.lt).block rfl
          have HBD : Hid (Below w.heap.size w W1.drew) := hbw.drew
          have HNE := hid HI.out.ne
          have HLL : Hid ((pr4 q (rows.take i) a v ++ ((rw4 (rat rows i) a v).take k).map (red q)).length ≤ 8796093021951) := by
            unfold Hid
            rw [List.length_append, List.length_map, List.length_take]
            have := HLN.out
            have := rw4_len (rat rows i) a v
            omega
          generalize hr0 : z0 % (q : Int) = r0 at *
          generalize hr1 : z1 % (q : Int) = r1 at *
          have HOW : Hid (∀ k, u9.ownBlock = some k → w.heap.size ≤ k ∧ k < wr.heap.size) := fun k hk => World.ownsRow.lt HI.out.cel k hk
          clear hb1 hbk hbw HI b0 b1
          go_wp2_with fail
          rw [← hW1]
          clear hW1 c0 c1
          obtain ⟨PB, hPB⟩ : ∃ PB, PB = wr.heap.size := ⟨_, rfl⟩
          rw [← hPB] at x0 x1 ⊢
          have HPB := hid hPB
          clear hPB
          refine wp_region_held_drew (S := (fun W => W.cell? ⟨PB, 0, none⟩ = some (.int .i64 z0) ∧ W.cell? ⟨PB, 1, none⟩ = some (.int .i64 z1) ∧ W.cell? ⟨b, 0, none⟩ = some (.int .i64 q))) (by kernel_rfl) ⟨x0, x1, hpw⟩ (fun hHeld => ?_)
          refine wpAnyH_takeU (i := 0) (v := u9) rfl (by kernel_rfl) (by kernel_rfl) (by kernel_rfl) (fun _ _ _ h => h) (by rfl) (fun W hC => by go_simp) hHeld ?_
          simp only [Act.put, List.setIfInBounds_toArray, List.set_cons_zero, List.set_cons_succ]
          refine wpAnyH_takeU (i := 1) (v := .pointer (some ⟨b, 0, none⟩)) rfl (by kernel_rfl) (by kernel_rfl) (by kernel_rfl) (fun _ _ _ h => h) (by rfl) (fun W hC => by go_simp) hHeld ?_
          simp only [Act.put, List.setIfInBounds_toArray, List.set_cons_zero, List.set_cons_succ]
          refine wpAnyH_takeU (i := 2) (v := .pointer (some ⟨PB, 0, none⟩)) rfl (by kernel_rfl) (by kernel_rfl) (by kernel_rfl) (fun _ _ _ h => h) (by rfl) (fun W hC => by go_simp) hHeld ?_
          simp only [Act.put, List.setIfInBounds_toArray, List.set_cons_zero, List.set_cons_succ]
          refine wpAnyH_takeU (i := 3) (v := .int .i64 z0) rfl (by kernel_rfl) (by kernel_rfl) (by kernel_rfl) (fun _ _ _ h => h) (by rfl) (fun W hC => by (obtain ⟨y0, y1, y2⟩ := hC); go_simp) hHeld ?_
          simp only [Act.put, List.setIfInBounds_toArray, List.set_cons_zero, List.set_cons_succ]
          refine wpAnyH_takeU (i := 5) (v := .pointer (some ⟨b, 0, none⟩)) rfl (by kernel_rfl) (by kernel_rfl) (by kernel_rfl) (fun _ _ _ h => h) (by rfl) (fun W hC => by go_simp) hHeld ?_
          simp only [Act.put, List.setIfInBounds_toArray, List.set_cons_zero, List.set_cons_succ]
          refine wpAnyH_takeU (i := 6) (v := .pointer (some ⟨PB, 1, none⟩)) rfl (by kernel_rfl) (by kernel_rfl) (by kernel_rfl) (fun _ _ _ h => h) (by rfl) (fun W hC => by go_simp) hHeld ?_
          simp only [Act.put, List.setIfInBounds_toArray, List.set_cons_zero, List.set_cons_succ]
          refine wpAnyH_takeU (i := 7) (v := .int .i64 z1) rfl (by kernel_rfl) (by kernel_rfl) (by kernel_rfl) (fun _ _ _ h => h) (by rfl) (fun W hC => by (obtain ⟨y0, y1, y2⟩ := hC); go_simp) hHeld ?_
          simp only [Act.put, List.setIfInBounds_toArray, List.set_cons_zero, List.set_cons_succ]
          refine wpAnyH_ready (rs := [4]) (by kernel_rfl) (by simp) ?_
          refine AllReadyH.consU rfl (fun K' hK' => ?_) AllReadyH.nil
          go_simp
          refine (HO0.out _ hHeld.2.2).mono ?_
          rintro e w' ⟨rfl, hw'⟩
          have hw'' := hw'.symm
          subst hw''
          refine hK'.out _ _ hHeld (fun hHeld => ?_)
          clear hK' K' hw'
          refine wpAnyH_ready (rs := [8]) (by kernel_rfl) (by simp) ?_
          refine AllReadyH.consU rfl (fun K' hK' => ?_) AllReadyH.nil
          go_simp
          refine (HO1.out _ hHeld.2.2).mono ?_
          rintro e w' ⟨rfl, hw'⟩
          have hw'' := hw'.symm
          subst hw''
          refine hK'.out _ _ hHeld (fun hHeld => ?_)
          clear hK' K' hw'
          refine wpAnyH_takeU (i := 9) (v := .agg #[.int .i64 r0, .int .i64 r1]) rfl (by kernel_rfl) (by kernel_rfl) (by kernel_rfl) (fun _ _ _ h => h) (by rfl) (fun W hC => by go_simp) hHeld ?_
          simp only [Act.put, List.setIfInBounds_toArray, List.set_cons_zero, List.set_cons_succ]
          refine wpAnyH_ready (rs := [10]) (by kernel_rfl) (by simp) ?_
          refine AllReadyH.consU rfl (fun K' hK' => ?_) AllReadyH.nil
          go_simp
          obtain ⟨WA, hWA⟩ : ∃ WA, WA = (W1.alloc (.cells #[.int .i64 r0, .int .i64 r1] 58)).drew := ⟨_, rfl⟩
          have hbA : Below W1.heap.size W1 WA := by rw [hWA]; exact ((Below.refl _ _).alloc (Nat.le_refl _) _).drew
          have hcA : WA.heap[W1.heap.size]? = some (.cells #[.int .i64 r0, .int .i64 r1] 58 (0, 0)) := by rw [hWA]; exact heap_alloc_new W1 _
          have hCA : CelR w.heap.size WA u9 (pr4 q (rows.take i) a v ++ ((rw4 (rat rows i) a v).take k).map (red q)) := CelR.belowB (w := W1.drew) HC1.out (show Below W1.heap.size W1.drew WA from ⟨hbA.os, hbA.tape, hbA.output, hbA.size, hbA.block⟩) (Nat.le_refl _)
          have hRA : CRow K WA (rw4 (rat rows i) a v) := HR1.out.block (hbA.block K HR1.out.lt)
          have hBA : Below w.heap.size w WA := HBD.out.trans (show Below w.heap.size W1.drew WA from ⟨hbA.os, hbA.tape, hbA.output, hbA.size, fun j hj => hbA.block j (Nat.lt_of_lt_of_le hj HBD.out.size)⟩)
          have hHA : WA.cell? ⟨PB, 0, none⟩ = some (.int .i64 z0) ∧ WA.cell? ⟨PB, 1, none⟩ = some (.int .i64 z1) ∧ WA.cell? ⟨b, 0, none⟩ = some (.int .i64 q) :=
            ⟨(hbA.cell (p := ⟨PB, 0, none⟩) (World.block_lt_of_cell? _ _ x0)).trans x0, (hbA.cell (p := ⟨PB, 1, none⟩) (World.block_lt_of_cell? _ _ x1)).trans x1, (hbA.cell (p := ⟨b, 0, none⟩) (World.block_lt_of_cell? _ _ hpw)).trans hpw⟩
          rw [← hWA]
          refine hK'.out _ _ hHA (fun hHeld => ?_)
          clear hK' K'
          obtain ⟨i0, hi0, hz0, hz1, hz2⟩ := info_parts (show (Tryz.prog.info? 58).map (fun i => (i.zero, i.size, i.bytes)) = some (some (.agg #[.int .i64 0, .int .i64 0]), 2, 16) by kernel_rfl)
          obtain ⟨v', w5, hrun, hown2, hgrow, _, hwhere⟩ := run_append_own_at WA w.heap.size 34 34 58 i0 _ 2 16 Tryz.underlying34 hi0 hz0 hz1 hz2 rfl (by decide) u9 _ _ hCA ⟨W1.heap.size, 0, none⟩ 1 1 [.int .i64 r0, .int .i64 r1] rfl (by
            intro j u hj
            have hadd : (⟨W1.heap.size, 0, none⟩ : Addr).add j = ⟨W1.heap.size, j, none⟩ := by unfold Addr.add; split <;> simp_all
            rw [hadd]
            simp only [World.cell?, hcA]
            simpa using hj) (by intro u hu; simp at hu; rcases hu with rfl | rfl <;> rfl) (by have := HLL.out; unfold maxLen; omega) (by have := HLL.out; omega) hBA.size
          have hgl : ∀ k, u9.ownBlock = some k → w.heap.size ≤ k ∧ k < wr.heap.size := HOW.out
          have hC2 : w5.cell? ⟨PB, 0, none⟩ = some (.int .i64 z0) ∧ w5.cell? ⟨PB, 1, none⟩ = some (.int .i64 z1) ∧ w5.cell? ⟨b, 0, none⟩ = some (.int .i64 q) :=
            ⟨hgrow.cell hHA.1 (fun e => by have := (hgl PB e.symm).2; have := HPB.out; omega), hgrow.cell hHA.2.1 (fun e => by have := (hgl PB e.symm).2; have := HPB.out; omega), hgrow.cell hHA.2.2 (fun e => by have := (hgl b e.symm).1; omega)⟩
          have HI5 : Hid (SpI K q i (k + 1) a v rows v' w w5) := by
            refine ⟨?_, hRA.grown hgrow HNE.out, fun e => ?_, hBA.grown hgrow hBA.size (fun k hk => (hgl k hk).1)⟩
            · unfold CelR
              rw [HT4.out, ← List.append_assoc, celv_app, List.length_append]
              simpa [celv] using hown2
            · rcases hwhere with h | h
              · rw [h] at e; exact HNE.out e
              · rw [h] at e
                injection e with e
                have := hRA.lt
                omega
          clear hCA hRA hBA hHA hcA hbA hown2 hgrow hwhere hgl
          refine wpAnyH_ready (rs := [11]) (by kernel_rfl) (by simp) ?_
          refine AllReadyH.consU rfl (fun K' hK' => ?_) AllReadyH.nil
          rw [if_pos (by rfl)]
          refine rg_appendU _ _ 34 34 rfl _ _ v' rfl rfl hrun ?_
          refine hK'.out _ _ hC2 (fun hHeld => ?_)
          clear hK' K' hrun
          simp only [Act.put, List.setIfInBounds_toArray, List.set_cons_zero, List.set_cons_succ]
          refine wpAnyH_ready (rs := [12]) (by kernel_rfl) (by simp) ?_
          refine AllReadyH.consU rfl (fun K' hK' => ?_) AllReadyH.nil
          go_simp
          refine hK'.out _ _ hHeld (fun _ => ?_)
          clear hK' K' hHeld
          refine wpAnyH_done (by kernel_rfl) ?_ _
          go_wp2_with fail
          go_roundw
          case rel => exact ⟨k + 1, by omega, by go_num, HI5⟩
          case measure => simp [intOf]; omega
        · obtain rfl : k = 4 := by omega
          have HC4 : Hid (CelR w.heap.size wr u9 (pr4 q (rows.take (i + 1)) a v)) := by
            unfold Hid
            rw [HTK.out]
            have := HI.out.cel
            rw [show (rw4 (rat rows i) a v).take 4 = rw4 (rat rows i) a v from List.take_of_length_le (by rw [rw4_len]; omega)] at this
            exact this
          have HB4 := hid HI.out.bel
          clear HI
          go_wp2_with fail
          go_roundw
          case rel => exact ⟨i + 1, by omega, by go_num, HC4, HB4⟩
          case measure => simp [intOf]; omega
    · obtain rfl : i = n := by omega
      have hlt2 : ¬ (i : Int) < (i : Int) := by omega
      rw [HN.out, List.take_length] at HC
      have HST := hid (srtP w.heap.size u9 (pr4 q rows a v) wr HC.out (by rw [pr4_len, ← HN.out]; omega) HB.out.size)
      clear HC
      go_wp2_with fail
      refine HST.out.mono ?_
      rintro e w2 ⟨rfl, l', hpm, hso, hcl, hb2⟩
      have HE : Hid (∃ uv l', Ending.returned u9 = .returned uv ∧ l'.Perm (pr4 q rows a v) ∧ l'.Pairwise cle ∧ CelR w.heap.size w2 uv l' ∧ Below w.heap.size w w2) := ⟨u9, l', rfl, hpm, hso, hcl, HB.out.trans hb2⟩
      clear hpm hso hcl hb2 HST
      go_wp2_with fail
      go_ret
      exact HE.out

end Go.Proofs.YtdpdmgmeieijaaaGreatDoor

namespace Go.Proofs.YtdpdmgmeieijaaaGreatDoor
open Go.RowKit

noncomputable def geB (n : Nat) (rows : List (List Int)) : Bool := @decide (allGe n rows) (Classical.propDecidable _)
theorem geB_yes {n : Nat} {rows : List (List Int)} (h : allGe n rows) : geB n rows = true := by unfold geB; exact @decide_eq_true _ (Classical.propDecidable _) h
theorem geB_no {n : Nat} {rows : List (List Int)} (h : ¬ allGe n rows) : geB n rows = false := by unfold geB; exact @decide_eq_false _ (Classical.propDecidable _) h

set_option maxHeartbeats 1000000 in
theorem isPaired_any (c : Nat) (ad : Option Addr) (rows : List (List Int)) (w : World) (hL : LstR w.heap.size w ad c rows) (hF : FitsR rows) (hn : rows.length ≤ 5864062014805) :
    Calls Tryz.prog 18 #[.slice ad rows.length c] w fun e w' => e = .returned (.bool (geB 20 rows)) ∧ w' = w := by
  have HL := hid hL
  have HF := hid hF
  obtain ⟨n, hn'⟩ : ∃ n, n = rows.length := ⟨_, rfl⟩
  have HN := hid hn'
  rw [← hn'] at hn ⊢
  obtain ⟨gb, hgb⟩ : ∃ gb, gb = geB 20 rows := ⟨_, rfl⟩
  rw [← hgb]
  have HGB := hid hgb
  clear hL hF hn' hgb
  go_enter Tryz.func18, Tryz.ntmps18
  go_wp2_with fail
  go_loop [4, 7] (fun _ iv => ∃ i : Nat, i ≤ n ∧ iv = .int .i64 i ∧ Hid (∀ k, k < i → 20 ≤ (rat rows k).length)) (fun _ iv => n - (intOf iv).toNat)
  case atStart => exact ⟨0, Nat.zero_le _, rfl, fun k hk => by omega⟩
  case round =>
    obtain ⟨i, hi, rfl, HG⟩ := hrel
    by_cases hlt : i < n
    · have hlt2 : (i : Int) < (n : Int) := by omega
      have his : IntKind.i64.wrap ((i : Int) + 1) = (i : Int) + 1 := by rw [IntKind.wrap_i64]; omega
      obtain ⟨g, o, ak, ck, rfl, hg0, hc, _⟩ := HL.out.row i (by have := HN.out; omega)
      have hfi := (HF.out i (by have := HN.out; omega)).2
      by_cases h20 : 20 ≤ (rat rows i).length
      · have HG2 : Hid (∀ k, k < i + 1 → 20 ≤ (rat rows k).length) := fun k hk => by
          by_cases e : k = i
          · subst e; exact h20
          · exact HG.out k (by omega)
        have q : ¬ ((rat rows i).length : Int) < 20 := by omega
        clear h20
        generalize (rat rows i).length = rl at *
        go_wp2_with fail
        go_round
        case rel => exact ⟨i + 1, by omega, by go_num, HG2⟩
        case measure => simp [intOf]; omega
      · have HFa : Hid (gb = false) := by unfold Hid; rw [HGB.out]; exact geB_no (fun h => h20 (h i (by have := HN.out; omega)))
        have q : ((rat rows i).length : Int) < 20 := by omega
        clear h20
        generalize (rat rows i).length = rl at *
        go_wp2_with fail
        go_ret
        exact ⟨by rw [HFa.out]; rfl, rfl⟩
    · obtain rfl : i = n := by omega
      have hlt2 : ¬ (i : Int) < (i : Int) := by omega
      have HTr : Hid (gb = true) := by unfold Hid; rw [HGB.out]; exact geB_yes (fun k hk => HG.out k (by have := HN.out; omega))
      go_wp2_with fail
      go_ret
      exact ⟨by rw [HTr.out]; rfl, rfl⟩

set_option maxRecDepth 100000 in
set_option maxHeartbeats 2000000 in
theorem sequal_any (c d : Nat) (a b : Option Addr) (L M : List (Int × Int)) (w : World) (hn : L.length ≤ 8796093022208) (hL : LstC w.heap.size w a c L) (hm : M.length ≤ 8796093022208) (hM : LstC w.heap.size w b d M) :
    Calls Tryz.prog 19 #[.slice a L.length c, .slice b M.length d] w fun e w' => e = .returned (.bool (decide (L = M))) ∧ Below w.heap.size w w' := by
  obtain ⟨r, hr⟩ : ∃ r, r = decide (L = M) := ⟨_, rfl⟩
  rw [← hr]
  have HEQ := hid hr
  have HL := hid hL
  have HM := hid hM
  obtain ⟨n, hn'⟩ : ∃ n, n = L.length := ⟨_, rfl⟩
  obtain ⟨m, hm'⟩ : ∃ m, m = M.length := ⟨_, rfl⟩
  have HN := hid hn'
  have HMM := hid hm'
  rw [← hn'] at hn ⊢
  rw [← hm'] at hm ⊢
  clear hL hM hr hn' hm'
  by_cases hnm : n = m
  · subst hnm
    have hne : ((n : Int) != (n : Int)) = false := by simp
    go_enter Tryz.func19, Tryz.ntmps19
    go_wp2_with fail
    clear hne
    go_loopw [5, 13] (fun _ iv wr => ∃ (i k : Nat), i ≤ n ∧ iv = .int .i64 i ∧ Hid (wr = w.drewN k) ∧ Hid (∀ j, j < i → cat L j = cat M j)) (fun _ iv _ => n - (intOf iv).toNat)
    case atStart => exact ⟨0, 0, Nat.zero_le _, rfl, rfl, fun j hj => by omega⟩
    case round =>
      obtain ⟨i, k, hi, rfl, HW, HS⟩ := hrel
      by_cases hlt : i < n
      · have hlt2 : (i : Int) < (n : Int) := by omega
        have his : IntKind.i64.wrap ((i : Int) + 1) = (i : Int) + 1 := by rw [IntKind.wrap_i64]; omega
        obtain ⟨g1, o1, rfl, _, x0, x1⟩ := HL.out.row i (by have := HN.out; omega)
        obtain ⟨g2, o2, rfl, _, y0, y1⟩ := HM.out.row i (by have := HMM.out; omega)
        have x0' : wr.cell? ⟨g1, o1 + i * 2, none⟩ = some (.int .i64 (cat L i).1) := by rw [HW.out]; exact x0
        have x1' : wr.cell? ⟨g1, o1 + i * 2 + 1, none⟩ = some (.int .i64 (cat L i).2) := by rw [HW.out]; exact x1
        have y0' : wr.cell? ⟨g2, o2 + i * 2, none⟩ = some (.int .i64 (cat M i).1) := by rw [HW.out]; exact y0
        have y1' : wr.cell? ⟨g2, o2 + i * 2 + 1, none⟩ = some (.int .i64 (cat M i).2) := by rw [HW.out]; exact y1
        have hne := neq_cel (cat L i) (cat M i)
        by_cases he : cat L i = cat M i
        · have HS2 : Hid (∀ j, j < i + 1 → cat L j = cat M j) := fun j hj => by
            by_cases e : j = i
            · subst e; exact he
            · exact HS.out j (by omega)
          rw [decide_eq_true he, Bool.not_true] at hne
          clear x0 x1 y0 y1 he
          generalize (cat L i).1 = u0 at *
          generalize (cat L i).2 = u1 at *
          generalize (cat M i).1 = v0 at *
          generalize (cat M i).2 = v1 at *
          go_wp2_with fail
          go_quiet (fail)
          go_wp2_with fail
          go_roundw
          case rel => exact ⟨i + 1, _, by omega, by go_num, by unfold Hid; rw [HW.out, World.drewN_drewN], HS2⟩
          case measure => simp [intOf]; omega
        · have HFa : Hid (r = false) := by
            unfold Hid
            rw [HEQ.out]
            exact decide_eq_false (fun e => he (by rw [e]))
          rw [decide_eq_false he, Bool.not_false] at hne
          clear x0 x1 y0 y1 he
          generalize (cat L i).1 = u0 at *
          generalize (cat L i).2 = u1 at *
          generalize (cat M i).1 = v0 at *
          generalize (cat M i).2 = v1 at *
          go_wp2_with fail
          go_quiet (fail)
          go_wp2_with fail
          go_ret
          exact ⟨by rw [HFa.out]; rfl, by rw [HW.out]; exact below_drewN (below_drewN (Below.refl _ _) _) _⟩
      · obtain rfl : i = n := by omega
        have hlt2 : ¬ (i : Int) < (i : Int) := by omega
        have HT : Hid (r = true) := by
          unfold Hid
          rw [HEQ.out]
          refine decide_eq_true (List.ext_getElem (by have := HN.out; have := HMM.out; omega) (fun j h1 h2 => ?_))
          have := HS.out j (by have := HN.out; omega)
          simpa [cat, h1, h2] using this
        go_wp2_with fail
        go_ret
        exact ⟨by rw [HT.out]; rfl, by rw [HW.out]; exact below_drewN (Below.refl _ _) _⟩
  · have hne : ((n : Int) != (m : Int)) = true := by rw [bne_iff_ne]; omega
    have HFa : Hid (r = false) := by
      unfold Hid
      rw [HEQ.out]
      exact decide_eq_false (fun e => hnm (by have h1 := HN.out; have h2 := HMM.out; rw [e] at h1; omega))
    go_enter Tryz.func19, Tryz.ntmps19
    go_wp2_with fail
    go_ret
    exact ⟨by rw [HFa.out]; rfl, Below.refl _ _⟩

/-- are pairs the same ones in both orders? -/
noncomputable def alkB (p : Nat) (rows : List (List Int)) : Bool := geB 20 rows && decide ((pr4 p rows 3 7).Perm (pr4 p rows 12 16))

set_option maxHeartbeats 1000000 in
theorem palike_any (q b c : Nat) (ad : Option Addr) (rows : List (List Int)) (w : World) (h3 : 3 ≤ q) (h4 : q ≤ 2147483647) (hp : w.cell? ⟨b, 0, none⟩ = some (.int .i64 q)) (hL : LstR w.heap.size w ad c rows) (hF : FitsR rows) (hn : rows.length ≤ 2000000000000) :
    Calls Tryz.prog 8 #[.pointer (some ⟨b, 0, none⟩), .slice ad rows.length c] w fun e w' => e = .returned (.bool (alkB q rows)) ∧ Below w.heap.size w w' := by
  have hbl : b < w.heap.size := World.block_lt_of_cell? _ _ hp
  have HIP := hid (isPaired_any c ad rows w hL hF (by omega))
  by_cases hg : allGe 20 rows
  · rw [geB_yes hg] at HIP
    obtain ⟨r, hr⟩ : ∃ r, r = alkB q rows := ⟨_, rfl⟩
    rw [← hr]
    have H1 := hid (sortedPairs_any q b c 3 7 ad rows w h3 h4 hp hL hF hn hg (by omega) (by omega))
    have H2 := hid (fun (W : World) (hb : Below w.heap.size w W) => sortedPairs_any q b c 12 16 ad rows W h3 h4 ((hb.cell (p := ⟨b, 0, none⟩) hbl).trans hp) ((hL.below hb).mono hb.size) hF hn hg (by omega) (by omega))
    have HLN : Hid (∀ l : List (Int × Int), ∀ a v, l.Perm (pr4 q rows a v) → l.length ≤ 8796093022208) := fun l a v h => by
      rw [h.length_eq, pr4_len]; omega
    have HEQ : Hid (∀ l m : List (Int × Int), l.Perm (pr4 q rows 3 7) → l.Pairwise cle → m.Perm (pr4 q rows 12 16) → m.Pairwise cle → decide (l = m) = r) := fun l m h1 h2 h3 h4 => by
      rw [hr]
      unfold alkB
      rw [geB_yes hg, Bool.true_and]
      congr 1
      exact propext ⟨fun e => h1.symm.trans (by rw [e]; exact h3), fun e => sorted_one h2 h4 (h1.trans (e.trans h3.symm))⟩
    generalize rows.length = n at *
    clear hL hF hp hg hr
    go_enter Tryz.func8, Tryz.ntmps8
    go_wp2_with fail
    refine HIP.out.mono ?_
    rintro e w1 ⟨rfl, hw1⟩
    have hw2 := hw1.symm
    subst hw2
    go_wp2_with fail
    refine H1.out.mono ?_
    rintro e w2 ⟨u1, l1, rfl, p1, s1, c1, b1⟩
    have HP1 := hid (And.intro p1 s1)
    have HC1 := hid c1
    have HB1 := hid b1
    have H3 := hid (H2.out w2 b1)
    clear p1 s1 c1 b1 H1 H2 HIP
    go_wp2_with fail
    refine H3.out.mono ?_
    rintro e w3 ⟨u2, l2, rfl, p2, s2, c2, b2⟩
    have hC1 := CelR.belowB HC1.out b2 (Nat.le_refl _)
    obtain ⟨a1, d1, rfl, hl1⟩ := lstC_of_owns hC1
    obtain ⟨a2, d2, rfl, hl2⟩ := lstC_of_owns c2
    have HQ := hid (sequal_any d1 d2 a1 a2 l1 l2 w3 (HLN.out _ _ _ HP1.out.1) hl1 (HLN.out _ _ _ p2) hl2)
    rw [HEQ.out l1 l2 HP1.out.1 HP1.out.2 p2 s2] at HQ
    have HB2 := hid (HB1.out.trans (b2.mono HB1.out.size))
    generalize l1.length = n1 at *
    generalize l2.length = n2 at *
    clear p2 s2 c2 b2 hC1 hl1 hl2 H3 HP1 HC1
    go_wp2_with fail
    refine HQ.out.mono ?_
    rintro e w4 ⟨rfl, hb4⟩
    have HB4 := hid (HB2.out.trans (hb4.mono HB2.out.size))
    clear hb4 HQ
    go_wp2_with fail
    go_ret
    exact ⟨rfl, HB4.out⟩
  · rw [geB_no hg] at HIP
    have HA : Hid (alkB q rows = false) := by unfold Hid alkB; rw [geB_no hg]; rfl
    rw [HA.out]
    generalize rows.length = n at *
    clear hL hF hp hg HA
    go_enter Tryz.func8, Tryz.ntmps8
    go_wp2_with fail
    refine HIP.out.mono ?_
    rintro e w1 ⟨rfl, hw1⟩
    have hw2 := hw1.symm
    subst hw2
    go_wp2_with fail
    go_ret
    exact ⟨rfl, Below.refl _ _⟩

end Go.Proofs.YtdpdmgmeieijaaaGreatDoor
