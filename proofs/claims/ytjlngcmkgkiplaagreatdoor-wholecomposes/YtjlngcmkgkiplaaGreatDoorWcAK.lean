
import Derived.Test.YtjlngcmkgkiplaaGreatDoorWcAJ
import Derived.Test.YtjlngcmkgkiplaaGreatDoorTres
import Derived.StillTailTactics
import Derived.Test.YtjlngcmkgkiplaaGreatDoorPls
import Derived.Deep.QuietTactic
import Derived.BigQuiet
import Derived.Test.YtjlngcmkgkiplaaGreatDoorFld
import Derived.OrdersHeld
import Derived.Deep.RegionHeld3
import Derived.Maps.AppendAt
import Derived.Shelf.Sort.Plain
import Derived.Shelf.Slices.CompactI
import Derived.Test.YtjlngcmkgkiplaaGreatDoorProg
set_option maxRecDepth 1000000
set_option maxHeartbeats 8000000
namespace Go.Proofs.YtjlngcmkgkiplaaGreatDoor
open Go.RowKit
def rw4 (r : List Int) (a v : Nat) : List (Int × Int) := (List.range 4).map fun j => (zat r (a + j), zat r (v + j))
theorem rw4_len (r : List Int) (a v : Nat) : (rw4 r a v).length = 4 := by simp [rw4]
def fillP (r : List Int) (a v k : Nat) : List (Int × Int) := (List.range 4).map fun j => if j < k then (zat r (a + j), zat r (v + j)) else (0, 0)
theorem fillP_len (r : List Int) (a v k : Nat) : (fillP r a v k).length = 4 := by simp [fillP]
theorem fillP_full (r : List Int) (a v : Nat) : fillP r a v 4 = rw4 r a v := rfl
theorem fillP_set (r : List Int) (a v k : Nat) (h : k < 4) : (fillP r a v k).set k (zat r (a + k), zat r (v + k)) = fillP r a v (k + 1) := by
 have : k = 0 ∨ k = 1 ∨ k = 2 ∨ k = 3 := by omega
 rcases this with rfl | rfl | rfl | rfl <;> rfl
theorem fillP_zero (r : List Int) (a v : Nat) : fillP r a v 0 = List.replicate 4 (0, 0) := rfl
theorem made4 : (madeCells (Value.agg #[.int .i64 0, .int .i64 0]).cells (4 * 2)).toList = celv (List.replicate 4 (0, 0)) := by kernel_rfl
theorem rowPairs_any (c a v : Nat) (ad : Option Addr) (r : List Int) (w : World) (hL : RowB w.heap.size w ad r) (hn : r.length <= 17592186044416) (ha : a + 4 <= r.length) (hv : v + 4 <= r.length) :
  Calls Tryz.prog 120 #[.slice ad r.length c, .int .i64 (a : Int), .int .i64 (v : Int)] w fun e w' => ∃ K, e = .returned (.slice (some ⟨K, 0, none⟩) 4 4) /\ w.heap.size <= K /\ CRow K w' (rw4 r a v) /\ Below w.heap.size w w' := by
 have hmx : Tryz.prog.follows .mixedOrders = true := by kernel_rfl
 obtain ⟨i0, hi, hz0, hz1, hz2⟩ := info_parts (show (Tryz.prog.info? 161).map (fun i => (i.zero, i.size, i.bytes)) = some (some (.agg #[.int .i64 0, .int .i64 0]), 2, 16) by kernel_rfl)
 have HR := hid hL
 obtain ⟨n, hn'⟩ : ∃ n, n = r.length := ⟨_, rfl⟩
 have HN := hid hn'
 rw [<- hn'] at hn ha hv ⊢
 clear hL hn'
 go_enter Tryz.func120, Tryz.ntmps120
 go_wp2_with (refine wpList_make_full _ rfl _ _ _ rfl w.heap.size 161 i0 _ 2 Tryz.underlying139 hi hz0 hz1 .i64 .i64 4 4 4 rfl rfl rfl rfl (by rw [hz2]; omega) (by decide) (Nat.le_refl _) ?_)
 intro w1 hown hgr
 have hb1 : Below w.heap.size w w1 := ⟨hgr.os, hgr.tape, hgr.output, hgr.size, fun k hk => hgr.block k hk (by simp)⟩
 have hcr : CelR w.heap.size w1 (.slice (some ⟨w.heap.size, 0, none⟩) 4 4) (fillP r a v 0) := by
  unfold CelR
  rw [fillP_zero, <- made4]
  exact hown
 rcases crow_of_owns hcr with ⟨h0, _⟩ | ⟨g, cap, hsl, hg, _, hrow⟩
 ·cases h0
 have hgw : g = w.heap.size := by injection hsl with e1; injection e1 with e1; injection e1 with e1; exact e1.symm
 subst hgw
 have HR0 := hid hrow
 have HB0 := hid hb1
 obtain ⟨K, hK⟩ := exE (w.heap.size)
 rw [<- hK] at HR0 ⊢
 have HK := hid hK
 clear hown hgr hb1 hcr hsl hg hrow hK
 go_wp2_with fail
 go_loopw [8, 12] (fun _ iv wr => ∃ k : Nat, k <= 4 /\ iv = .int .i64 k /\ Hid (CRow K wr (fillP r a v k)) /\ Hid (Below w.heap.size w wr)) (fun _ iv _ => 4 - (intOf iv).toNat)
 case atStart => exact ⟨0, by omega, rfl, HR0, HB0⟩
 case round =>
  obtain ⟨k, hk, rfl, HRw, HBw⟩ := hrel
  by_cases hlt : k < 4
  ·have hlt2 : (k : Int) < 4 := by omega
   have hks : IntKind.i64.wrap ((k : Int) + 1) = (k : Int) + 1 := by rw [IntKind.wrap_i64]; omega
   obtain ⟨ia, hia⟩ := exE (a + k)
   obtain ⟨iv, hiv⟩ := exE (v + k)
   have e1 : (a : Int) + (k : Int) = (ia : Int) := by omega
   have e2 : (v : Int) + (k : Int) = (iv : Int) := by omega
   have w1' : IntKind.i64.wrap (ia : Int) = (ia : Int) := by rw [IntKind.wrap_i64]; omega
   have w2' : IntKind.i64.wrap (iv : Int) = (iv : Int) := by rw [IntKind.wrap_i64]; omega
   have l1 : (ia : Int) < (n : Int) := by omega
   have l2 : (iv : Int) < (n : Int) := by omega
   obtain ⟨b, o, rfl, hb, c1⟩ := HR.out ia (by have := HN.out; omega)
   obtain ⟨b', o', hbo, _, c2⟩ := HR.out iv (by have := HN.out; omega)
   injection hbo with hbo
   injection hbo with hb' ho'
   subst hb' ho'
   replace c1 := (HBw.out.cell (p := ⟨b, o + ia, none⟩) hb).trans c1
   replace c2 := (HBw.out.cell (p := ⟨b, o + iv, none⟩) hb).trans c2
   obtain ⟨q0, q1⟩ := HRw.out.cells k (by rw [fillP_len]; exact hlt)
   have f0 := HRw.out.soft (k * 2)
   have f1 := HRw.out.soft (k * 2 + 1)
   have q0' : ∀ d, ({ wr with drawn := d } : World).cell? ⟨K, k * 2, none⟩ = some (.int .i64 (cat (fillP r a v k) k).1) := fun _ => q0
   have q1' : ∀ d, ({ wr with drawn := d } : World).cell? ⟨K, k * 2 + 1, none⟩ = some (.int .i64 (cat (fillP r a v k) k).2) := fun _ => q1
   have f0' : ∀ d, ({ wr with drawn := d } : World).frozen? ⟨K, k * 2, none⟩ = false := fun _ => f0
   have f1' : ∀ d, ({ wr with drawn := d } : World).frozen? ⟨K, k * 2 + 1, none⟩ = false := fun _ => f1
   have HRd : CRow K wr.drew (fillP r a v k) := HRw.out.block rfl
   have HBd : Below w.heap.size w wr.drew := HBw.out.drew
   have HST : Hid (CRow K ((wr.drew.setCell ⟨K, k * 2, none⟩ (.int .i64 (zat r ia))).setCell ⟨K, k * 2 + 1, none⟩ (.int .i64 (zat r iv))) (fillP r a v (k + 1))) := by
    have := HRd.set (zat r ia, zat r iv) (k := k) (by rw [fillP_len]; exact hlt)
    rw [hia, hiv, fillP_set _ _ _ _ hlt] at this
    rw [hia, hiv]
    exact this
   have HBS : Hid (Below w.heap.size w ((wr.drew.setCell ⟨K, k * 2, none⟩ (.int .i64 (zat r ia))).setCell ⟨K, k * 2 + 1, none⟩ (.int .i64 (zat r iv)))) := (HBd.setCell (p := ⟨K, k * 2, none⟩) (by show w.heap.size <= K; rw [HK.out]; exact Nat.le_refl _) _).setCell (p := ⟨K, k * 2 + 1, none⟩) (by show w.heap.size <= K; rw [HK.out]; exact Nat.le_refl _) _
   generalize zat r ia = za at *
   generalize zat r iv = zv at *
   generalize (cat (fillP r a v k) k).1 = y0 at *
   generalize (cat (fillP r a v k) k).2 = y1 at *
   clear hia hiv HRw HBw HRd HBd
   go_wp2_with fail
   go_still_tail 16, hmx
   go_wp2_with fail
   go_roundw
   case rel => exact ⟨k + 1, by omega, by go_num, HST, HBS⟩
   case measure => simp [intOf]; omega
  ·obtain rfl : k = 4 := by omega
   go_wp2_with fail
   go_ret
   exact ⟨K, rfl, by rw [HK.out]; exact Nat.le_refl _, by rw [<- fillP_full]; exact HRw.out, HBw.out⟩
theorem wpList_celB {ops : Array Oper} {rest : List Oper} {o : Oper} {act : Act} {Q : Exit -> Act -> World -> Prop} (W : World) (hgd : o.guard = none) (s x : Operand)
  (ho : o.op = .call { callee := .builtin .append, args := #[s, x], argTypes := #[139, 139] }) (v : Value) (base : Nat) (l : List (Int × Int)) (z0 z1 : Int)
  (hown : CelR base W v l) (hs : act.eval s = v) (hx : act.eval x = .slice (some ⟨W.heap.size, 0, none⟩) 1 1) (hlen : l.length <= 8796093021952) (hbase : base <= W.heap.size)
  (h : ∀ v' w2, CelR base w2 v' (l ++ [(z0, z1)]) -> Below base W w2 -> W.grownBy w2 v.ownBlock -> wpList Tryz.prog ops Q rest (act.put o.dst v') w2) :
  wpList Tryz.prog ops Q (o :: rest) act (W.alloc (.cells #[.int .i64 z0, .int .i64 z1] 161)) := by
 obtain ⟨cs, hcs⟩ : ∃ cs, cs = #[Value.int .i64 z0, .int .i64 z1] := ⟨_, rfl⟩
 rw [<- hcs]
 have hbw : Below W.heap.size W (W.alloc (.cells cs 161)) := (Below.refl _ _).alloc (Nat.le_refl _) _
 obtain ⟨i0, hi, hz0, hz1, hz2⟩ := info_parts (show (Tryz.prog.info? 161).map (fun i => (i.zero, i.size, i.bytes)) = some (some (.agg #[.int .i64 0, .int .i64 0]), 2, 16) by kernel_rfl)
 have h1 : (W.alloc (.cells cs 161)).ownsRow base 161 2 v l.length (celv l) := World.ownsRow.alloc hown _
 refine wpList_append_own _ hgd s x 139 ho base 161 i0 _ 2 16 Tryz.underlying139 hi hz0 hz1 hz2 rfl (by decide) _ _ _ hs h1 ⟨W.heap.size, 0, none⟩ 1 1 cs.toList hx (by rw [hcs]; rfl) ?_ ?_ (by unfold maxLen; omega) (by omega) (by simp; omega) ?_
 ·intro j t hj
  have hc : (W.alloc (.cells cs 161)).heap[W.heap.size]? = some (.cells cs 161 (0, 0)) := heap_alloc_new W _
  have hadd : (⟨W.heap.size, 0, none⟩ : Addr).add j = ⟨W.heap.size, j, none⟩ := by unfold Addr.add; split <;> simp_all
  rw [hadd]
  simp only [World.cell?, hc]
  simpa using hj
 ·intro t ht
  rw [hcs] at ht
  have ht2 : t = .int .i64 z0 ∨ t = .int .i64 z1 := by simpa using ht
  rcases ht2 with rfl | rfl <;> rfl
 ·intro v' w2 hown2 hgrow _
  have hB0 : Below base (W.alloc (.cells cs 161)) w2 := (Below.refl base _).grown hgrow (by simp; omega) (fun k hk => (h1.lt k hk).1)
  refine h v' w2 ?_ ((hbw.mono hbase).trans hB0) ⟨hgrow.os, hgrow.tape, hgrow.output, by have := hgrow.size; simp at this; omega, fun k hk hne => (hgrow.block k (by simp; omega) hne).trans (hbw.block k hk)⟩
  unfold CelR
  rw [celv_app, List.length_append]
  rw [hcs] at hown2
  simpa [celv] using hown2
section
variable {P : Program} {ops : Array Oper} {Q : Exit -> Act -> World -> Prop} {md : Region.Mode} {S : World -> Prop}
theorem drop_atU {i : Nat} {oi : Oper} {rest : List Oper} (hl : ops.toList.drop i = oi :: rest) : ops[i]? = some oi := by
 have := congrArg (fun l => l[0]?) hl
 simpa [List.getElem?_drop] using this
theorem wpAnyH_takeU {i : Nat} {oi : Oper} {rest : List Oper} {v : Value} {fuel : Nat} {listed : Array Bool} {a : Act} {w : World} (hl : ops.toList.drop i = oi :: rest)
  (hs : Region.noSelect ops = true) (hf : Region.free md ops listed i = true) (hr : (Region.ready md ops listed).contains i = true)
  (hQ : ∀ c a w, Q (.panic c) (a.put oi.dst v) w -> Q (.panic c) a w) (hw : Region.wanted oi (yielded ops a.tmps) = true) (hy : ∀ w, S w -> (execOp a.eval oi).run P w = .ok (.value v) w) (hS : S w)
  (h : wpAnyH P md ops Q S fuel (listed.setIfInBounds i true) (a.put oi.dst v) w) : wpAnyH P md ops Q S (fuel + 1) listed a w :=
 wpAnyH_take (drop_atU hl) hs hf hr hQ (Or.inl ⟨hw, hy⟩) hS h
theorem tkU (i : Nat) (v : Value) {oi : Oper} {rest : List Oper} {fuel : Nat} {listed : Array Bool} {a : Act} {w : World} (hl : ops.toList.drop i = oi :: rest) (hy : ∀ w, S w → (execOp a.eval oi).run P w = .ok (.value v) w) (hS : S w) (h : wpAnyH P md ops Q S fuel (listed.setIfInBounds i true) (a.put oi.dst v) w)
 (hs : Region.noSelect ops = true := by kernel_rfl) (hf : Region.free md ops listed i = true := by kernel_rfl) (hr : (Region.ready md ops listed).contains i = true := by kernel_rfl) (hQ : ∀ c a w, Q (.panic c) (a.put oi.dst v) w → Q (.panic c) a w := by exact fun _ _ _ h => h) (hw : Region.wanted oi (yielded ops a.tmps) = true := by rfl) : wpAnyH P md ops Q S (fuel + 1) listed a w :=
 wpAnyH_takeU hl hs hf hr hQ hw hy hS h
theorem AllReadyH.consU {fuel : Nat} {listed : Array Bool} {a : Act} {w : World} {i : Nat} {o : Oper} {rest : List Oper} {rs : List Nat} (hl : ops.toList.drop i = o :: rest)
  (h : ∀ K' : Act -> World -> Prop, Shut (∀ a w, S w -> (S w -> wpAnyH P md ops Q S fuel (listed.setIfInBounds i true) a w) -> K' a w) -> if Region.wanted o (yielded ops a.tmps) = true then Oper.wp P o a w K' Q else K' (a.put o.dst undef) w)
  (hs : AllReadyH P md ops Q S fuel listed a w rs) : AllReadyH P md ops Q S fuel listed a w (i :: rs) := AllReadyH.cons (drop_atU hl) h hs
end
theorem rg_appendU {o : Oper} {a : Act} {w w2 : World} {K : Act -> World -> Prop} {Q : Exit -> Act -> World -> Prop} (s x : Operand) (tS tX : TypeId)
  (ho : o.op = .call { callee := .builtin .append, args := #[s, x], argTypes := #[tS, tX] }) (v u r : Value) (hs : a.eval s = v) (hx : a.eval x = u) (hrun : (Builtin.append_ #[tS, tX] o.type #[v, u]).run Tryz.prog w = .ok r w2)
  (h : K (a.put o.dst r) w2) : Oper.wp Tryz.prog o a w K Q := by
 unfold Oper.wp
 simp [execOp, ho, resolve, invoke, builtin, hs, hx, hrun, Result.andThen]
 exact h
def red (p : Nat) (c : Int × Int) : Int × Int := (c.1 % (p : Int), c.2 % (p : Int))
def pr4 (p : Nat) (rows : List (List Int)) (a v : Nat) : List (Int × Int) := rows.flatMap fun r => (rw4 r a v).map (red p)
theorem pr4_len (p : Nat) (rows : List (List Int)) (a v : Nat) : (pr4 p rows a v).length = 4 * rows.length := by
 induction rows with
 | nil => rfl
 | cons r rs ih =>
  have : pr4 p (r :: rs) a v = (rw4 r a v).map (red p) ++ pr4 p rs a v := rfl
  rw [this, List.length_append, ih, List.length_map, rw4_len, List.length_cons]
  omega
theorem pr4_take (p : Nat) (rows : List (List Int)) (a v i : Nat) (h : i < rows.length) : pr4 p (rows.take (i + 1)) a v = pr4 p (rows.take i) a v ++ (rw4 (rat rows i) a v).map (red p) := by
 rw [take_succ_rat h]
 unfold pr4
 rw [List.flatMap_append]
 simp
theorem rw4_take (p : Nat) (r : List Int) (a v k : Nat) (h : k < 4) : ((rw4 r a v).take (k + 1)).map (red p) = ((rw4 r a v).take k).map (red p) ++ [(zat r (a + k) % (p : Int), zat r (v + k) % (p : Int))] := by
 have : k = 0 ∨ k = 1 ∨ k = 2 ∨ k = 3 := by omega
 rcases this with rfl | rfl | rfl | rfl <;> rfl
theorem rw4_at (r : List Int) (a v k : Nat) (h : k < 4) : cat (rw4 r a v) k = (zat r (a + k), zat r (v + k)) := by
 have : k = 0 ∨ k = 1 ∨ k = 2 ∨ k = 3 := by omega
 rcases this with rfl | rfl | rfl | rfl <;> rfl
def allGe (n : Nat) (rows : List (List Int)) : Prop := ∀ k, k < rows.length -> n <= (rat rows k).length
structure RpI (q i k a v : Nat) (rows : List (List Int)) (uv : Value) (w wr : World) : Prop where
 cel : CelR w.heap.size wr uv (pr4 q (rows.take i) a v ++ ((rw4 (rat rows i) a v).take k).map (red q))
 bel : Below w.heap.size w wr
theorem rpairs_any (q c a v : Nat) (ad : Option Addr) (rows : List (List Int)) (w : World) (h3 : 3 <= q) (h4 : q <= 2147483647) (hL : LstR w.heap.size w ad c rows) (hF : FitsR rows) (hn : rows.length <= 2000000000000)
  (hg : allGe 20 rows) (ha : a + 4 <= 20) (hv : v + 4 <= 20) :
  Calls Tryz.prog 96 #[.int .i64 q, .slice ad rows.length c, .int .i64 (a : Int), .int .i64 (v : Int)] w fun e w' => ∃ uv, e = .returned uv /\ CelR w.heap.size w' uv (pr4 q rows a v) /\ Below w.heap.size w w' := by
 have HL := hid hL
 have HF := hid hF
 have HG := hid hg
 obtain ⟨n, hn'⟩ : ∃ n, n = rows.length := ⟨_, rfl⟩
 have HN := hid hn'
 rw [<- hn'] at hn ⊢
 clear hL hF hg hn'
 go_enter Tryz.func96, Tryz.ntmps96
 go_wp2_with fail
 go_loopw [9, 10, 11, 12, 13] (fun uv iv _ _ _ wr => ∃ i : Nat, i <= n /\ iv = .int .i64 i /\ Hid (CelR w.heap.size wr uv (pr4 q (rows.take i) a v)) /\ Hid (Below w.heap.size w wr)) (fun _ iv _ _ _ _ => n - (intOf iv).toNat)
 case atStart => exact ⟨0, Nat.zero_le _, rfl, World.ownsRow_nil _ _ _ _, Below.refl _ _⟩
 case round =>
  obtain ⟨i, hi, rfl, HC, HB⟩ := hrel
  by_cases hlt : i < n
  ·have hlt2 : (i : Int) < (n : Int) := by omega
   have his : IntKind.i64.wrap ((i : Int) + 1) = (i : Int) + 1 := by rw [IntKind.wrap_i64]; omega
   obtain ⟨g, o, ak, ck, rfl, hg0, hc, hrl⟩ := HL.out.row i (by have := HN.out; omega)
   have hfi := HF.out i (by have := HN.out; omega)
   have hge := HG.out i (by have := HN.out; omega)
   have HI0 : Hid (RpI q i 0 a v rows u9 w wr) := ⟨by rw [List.take_zero, List.map_nil, List.append_nil]; exact HC.out, HB.out⟩
   have HLN : Hid ((pr4 q (rows.take i) a v).length <= 8000000000000) := by
    unfold Hid
    rw [pr4_len, List.length_take]
    omega
   have HTK : Hid (pr4 q (rows.take (i + 1)) a v = pr4 q (rows.take i) a v ++ (rw4 (rat rows i) a v).map (red q)) := pr4_take q rows a v i (by have := HN.out; omega)
   have HFI : Hid (∀ j, -9223372036854775808 <= zat (rat rows i) j /\ zat (rat rows i) j <= 9223372036854775807) := fun j => Fits.all hfi.1 j
   have HRC : Hid (∀ W, Below w.heap.size w W -> W.cell? ⟨g, o + i, none⟩ = some (.slice ak (rat rows i).length ck) /\ ∀ j, j < (rat rows i).length -> ∃ b p, ak = some ⟨b, p, none⟩ /\ W.cell? ⟨b, p + j, none⟩ = some (.int .i64 (zat (rat rows i) j))) := fun W hW =>
    ⟨(hW.cell (p := ⟨g, o + i, none⟩) hg0).trans hc, fun j hj => by
     obtain ⟨b, p, e1, e2, e3⟩ := hrl.row j hj
     exact ⟨b, p, e1, (hW.cell (p := ⟨b, p + j, none⟩) e2).trans e3⟩⟩
   have hrl2 : (rat rows i).length <= 17592186044000 := hfi.2
   have HRL := hid hge
   clear HC HB hc hrl hfi hge hg0
   obtain ⟨rl, hrl'⟩ : ∃ rl, rl = (rat rows i).length := ⟨_, rfl⟩
   rw [<- hrl'] at HRC HRL hrl2
   clear hrl'
   go_wp2_with fail
   go_loopw [9, 11, 12, 13] (fun uv iv _ _ wq => ∃ k : Nat, k <= 4 /\ iv = .int .i64 k /\ Hid (RpI q i k a v rows uv w wq)) (fun _ iv _ _ _ => 4 - (intOf iv).toNat)
   case atStart => exact ⟨0, by omega, rfl, HI0⟩
   case round =>
    obtain ⟨k, hk, rfl, HI⟩ := hrel
    by_cases hlk : k < 4
    ·have hlk2 : (k : Int) < 4 := by omega
     have hks : IntKind.i64.wrap ((k : Int) + 1) = (k : Int) + 1 := by rw [IntKind.wrap_i64]; omega
     obtain ⟨ia, hia⟩ := exE (a + k)
     obtain ⟨iv, hiv⟩ := exE (v + k)
     have e1 : (a : Int) + (k : Int) = (ia : Int) := by omega
     have e2 : (v : Int) + (k : Int) = (iv : Int) := by omega
     have w1' : IntKind.i64.wrap (ia : Int) = (ia : Int) := by rw [IntKind.wrap_i64]; omega
     have w2' : IntKind.i64.wrap (iv : Int) = (iv : Int) := by rw [IntKind.wrap_i64]; omega
     have l1 : (ia : Int) < (rl : Int) := by have := HRL.out; omega
     have l2 : (iv : Int) < (rl : Int) := by have := HRL.out; omega
     obtain ⟨hc, hel⟩ := HRC.out wr HI.out.bel
     obtain ⟨b, p, rfl, c0⟩ := hel ia (by omega)
     obtain ⟨b', p', hbp, c1⟩ := hel iv (by omega)
     injection hbp with hbp
     injection hbp with hb' hp'
     subst hb' hp'
     have HT4 := hid (rw4_take q (rat rows i) a v k hlk)
     rw [<- hia, <- hiv] at HT4
     have b0 := HFI.out ia
     have b1 := HFI.out iv
     generalize zat (rat rows i) ia = z0 at *
     generalize zat (rat rows i) iv = z1 at *
     have HO0 : Hid (Calls Tryz.prog 56 #[.int .i64 q, .int .i64 z0] wr fun e w' => e = .returned (.int .i64 (z0 % (q : Int))) /\ w' = wr) := rof_any q z0 wr h3 h4 b0.1 b0.2
     have HO1 : Hid (Calls Tryz.prog 56 #[.int .i64 q, .int .i64 z1] wr fun e w' => e = .returned (.int .i64 (z1 % (q : Int))) /\ w' = wr) := rof_any q z1 wr h3 h4 b1.1 b1.2
     have HLL : Hid ((pr4 q (rows.take i) a v ++ ((rw4 (rat rows i) a v).take k).map (red q)).length <= 8796093021951) := by
      unfold Hid
      rw [List.length_append, List.length_map, List.length_take]
      have := HLN.out
      have := rw4_len (rat rows i) a v
      omega
     generalize z0 % (q : Int) = r0 at *
     generalize z1 % (q : Int) = r1 at *
     clear b0 b1 hel hia hiv
     go_wp2_with fail
     refine HO0.out.mono ?_
     rintro e w1 ⟨rfl, hw1⟩
     have hw2 := hw1.symm
     subst hw2
     go_wp2_with fail
     refine HO1.out.mono ?_
     rintro e w1 ⟨rfl, hw1⟩
     have hw2 := hw1.symm
     subst hw2
     clear HO0 HO1 hc c0 c1
     go_wp2_with (at_builtin; refine wpList_celB wr rfl _ _ rfl _ w.heap.size _ r0 r1 HI.out.cel rfl rfl (by have := HLL.out; omega) HI.out.bel.size ?_)
     intro v' w3 hc3 hb3 _
     have HI3 : Hid (RpI q i (k + 1) a v rows v' w w3) := ⟨by rw [HT4.out]; simpa [List.append_assoc] using hc3, HI.out.bel.trans hb3⟩
     clear hc3 hb3 HI
     go_wp2_with fail
     go_roundw
     case rel => exact ⟨k + 1, by omega, by go_num, HI3⟩
     case measure => simp [intOf]; omega
    ·obtain rfl : k = 4 := by omega
     have HC4 : Hid (CelR w.heap.size wr u9 (pr4 q (rows.take (i + 1)) a v)) := by
      unfold Hid
      rw [HTK.out]
      have := HI.out.cel
      rw [show (rw4 (rat rows i) a v).take 4 = rw4 (rat rows i) a v from List.take_of_length_le (by rw [rw4_len]; omega)] at this
      exact this
     have HB4 := hid HI.out.bel
     clear HI
     go_wp2_with fail
     go_roundw
     case rel => exact ⟨i + 1, by omega, by go_num, HC4, HB4⟩
     case measure => simp [intOf]; omega
  ·obtain rfl : i = n := by omega
   have hlt2 : ¬ (i : Int) < (i : Int) := by omega
   rw [HN.out, List.take_length] at HC
   have HE : Hid (∃ uv, Ending.returned u9 = .returned uv /\ CelR w.heap.size wr uv (pr4 q rows a v) /\ Below w.heap.size w wr) := ⟨u9, rfl, HC.out, HB.out⟩
   clear HC
   go_wp2_with fail
   go_ret
   exact HE.out
structure IRow (g : Nat) (w : World) (l : List Int) : Prop where
 lt : g < w.heap.size
 cells : ∀ k, k < l.length -> w.cell? ⟨g, k, none⟩ = some (.int .i64 (zat l k))
 soft : ∀ j, w.frozen? ⟨g, j, none⟩ = false
theorem lt_of_same {w w' : World} {g : Nat} (h : g < w.heap.size) (e : w'.heap[g]? = w.heap[g]?) : g < w'.heap.size := by
 rcases Nat.lt_or_ge g w'.heap.size with g1 | g1
 ·exact g1
 ·rw [Array.getElem?_eq_none g1, Array.getElem?_eq_getElem h] at e; cases e
theorem IRow.block {g : Nat} {w w' : World} {l : List Int} (h : IRow g w l) (e : w'.heap[g]? = w.heap[g]?) : IRow g w' l :=
 ⟨lt_of_same h.lt e, fun k hk => (World.cell?_of_block (w := w) (a := ⟨g, k, none⟩) e).trans (h.cells k hk), fun j => (World.frozen?_of_block (w := w) (a := ⟨g, j, none⟩) e).trans (h.soft j)⟩
theorem zat_set {l : List Int} {k j : Nat} {x : Int} (hk : k < l.length) : zat (l.set k x) j = if j = k then x else zat l j := by
 unfold zat
 rw [List.getElem?_set]
 by_cases h : k = j
 ·subst h; simp [hk]
 ·rw [if_neg h, if_neg (fun e => h e.symm)]
theorem IRow.set {g : Nat} {w : World} {l : List Int} (h : IRow g w l) {k : Nat} (x : Int) (hk : k < l.length) : IRow g (w.setCell ⟨g, k, none⟩ (.int .i64 x)) (l.set k x) := by
 refine ⟨by simpa using h.lt, fun j hj => ?_, fun j => by rw [World.frozen?_setCell]; exact h.soft j⟩
 rw [List.length_set] at hj
 rw [zat_set hk]
 by_cases e : j = k
 ·subst e
  rw [if_pos rfl]
  exact World.cell?_setCell_same _ _ _ (h.cells j hj)
 ·rw [if_neg e, World.cell?_setCell_other _ _ _ _ (by intro e1; injection e1 with _ h2 _; omega)]
  exact h.cells j hj
theorem IRow.lst {g n0 : Nat} {w : World} {l : List Int} (h : IRow g w l) (hg : g < n0) : Lst n0 w (some ⟨g, 0, none⟩) l.length l :=
 ⟨fun k hk => ⟨g, 0, rfl, hg, by rw [Nat.zero_add]; exact h.cells k hk⟩, Nat.le_refl _, fun e => by cases e⟩
structure Tbl (base G : Nat) (K : Nat -> Nat) (w : World) (R : List (List Int)) : Prop where
 lt : G < w.heap.size
 out : ∀ k, k < R.length -> w.cell? ⟨G, k, none⟩ = some (.slice (some ⟨K k, 0, none⟩) (rat R k).length (rat R k).length)
 row : ∀ k, k < R.length -> IRow (K k) w (rat R k)
 inj : ∀ j k, j < R.length -> k < R.length -> K j = K k -> j = k
 new : base <= G /\ ∀ k, k < R.length -> base <= K k /\ K k ≠ G
 soft : ∀ j, w.frozen? ⟨G, j, none⟩ = false
theorem Tbl.keep {base G : Nat} {K : Nat -> Nat} {w w' : World} {R : List (List Int)} (h : Tbl base G K w R) (hG : w'.heap[G]? = w.heap[G]?) (hK : ∀ k, k < R.length -> w'.heap[K k]? = w.heap[K k]?) : Tbl base G K w' R :=
 ⟨lt_of_same h.lt hG, fun k hk => (World.cell?_of_block (w := w) (a := ⟨G, k, none⟩) hG).trans (h.out k hk), fun k hk => (h.row k hk).block (hK k hk), h.inj, h.new, fun j => (World.frozen?_of_block (w := w) (a := ⟨G, j, none⟩) hG).trans (h.soft j)⟩
theorem Tbl.below {base G n0 : Nat} {K : Nat -> Nat} {w w' : World} {R : List (List Int)} (h : Tbl base G K w R) (e : Below n0 w w') (hn : w.heap.size <= n0) : Tbl base G K w' R :=
 h.keep (e.block _ (Nat.lt_of_lt_of_le h.lt hn)) fun k hk => e.block _ (Nat.lt_of_lt_of_le (h.row k hk).lt hn)
theorem rat_set {R : List (List Int)} {k j : Nat} {x : List Int} (hk : k < R.length) : rat (R.set k x) j = if j = k then x else rat R j := by
 unfold rat
 rw [List.getD_eq_getElem?_getD, List.getElem?_set]
 by_cases h : k = j
 ·subst h; simp [hk]
 ·rw [if_neg h, if_neg (fun e => h e.symm), List.getD_eq_getElem?_getD]
def put (R : List (List Int)) (k j : Nat) (x : Int) : List (List Int) := R.set k ((rat R k).set j x)
theorem put_len (R : List (List Int)) (k j : Nat) (x : Int) : (put R k j x).length = R.length := by simp [put]
theorem put_rat {R : List (List Int)} {k j m : Nat} {x : Int} (hk : k < R.length) : rat (put R k j x) m = if m = k then (rat R k).set j x else rat R m := rat_set hk
theorem put_row_len {R : List (List Int)} {k j m : Nat} {x : Int} (hk : k < R.length) : (rat (put R k j x) m).length = (rat R m).length := by
 rw [put_rat hk]; split
 ·rename_i h; subst h; simp
 ·rfl
theorem Tbl.put {base G : Nat} {K : Nat -> Nat} {w : World} {R : List (List Int)} (h : Tbl base G K w R) {k j : Nat} (x : Int) (hk : k < R.length) (hj : j < (rat R k).length) : Tbl base G K (w.setCell ⟨K k, j, none⟩ (.int .i64 x)) (put R k j x) := by
 have hG : (w.setCell ⟨K k, j, none⟩ (.int .i64 x)).heap[G]? = w.heap[G]? := Below.heap_setCell _ _ _ _ (fun e => (h.new.2 k hk).2 e.symm)
 refine ⟨lt_of_same h.lt hG, fun m hm => ?_, fun m hm => ?_, fun a b ha hb => ?_, ⟨h.new.1, fun m hm => ?_⟩, fun m => by rw [World.frozen?_setCell]; exact h.soft m⟩
 ·rw [put_len] at hm
  rw [put_row_len hk]
  exact (World.cell?_of_block (w := w) (a := ⟨G, m, none⟩) hG).trans (h.out m hm)
 ·rw [put_len] at hm
  rw [put_rat hk]
  by_cases e : m = k
  ·subst e; rw [if_pos rfl]; exact (h.row m hm).set x hj
  ·rw [if_neg e]; exact (h.row m hm).block (Below.heap_setCell _ _ _ _ (fun e1 => e (h.inj m k hm hk e1)))
 ·rw [put_len] at ha hb; exact h.inj a b ha hb
 ·rw [put_len] at hm; exact h.new.2 m hm
theorem Tbl.lst {base G cap : Nat} {K : Nat -> Nat} {w : World} {R : List (List Int)} (h : Tbl base G K w R) (hc : R.length <= cap) : LstR w.heap.size w (some ⟨G, 0, none⟩) cap R :=
 ⟨fun k hk => ⟨G, 0, _, _, rfl, h.lt, by rw [Nat.zero_add]; exact h.out k hk, (h.row k hk).lst (h.row k hk).lt⟩, hc, fun e => by cases e⟩
theorem Tbl.put_below {base G n0 : Nat} {K : Nat -> Nat} {w0 w : World} {R : List (List Int)} (h : Tbl base G K w R) (e : Below n0 w0 w) (hb : n0 <= base) {k j : Nat} (x : Int) (hk : k < R.length) : Below n0 w0 (w.setCell ⟨K k, j, none⟩ (.int .i64 x)) :=
 e.setCell (p := ⟨K k, j, none⟩) (Nat.le_trans hb (h.new.2 k hk).1) _
end Go.Proofs.YtjlngcmkgkiplaaGreatDoor
namespace Go.Proofs
open Go.Shelf
end Go.Proofs
