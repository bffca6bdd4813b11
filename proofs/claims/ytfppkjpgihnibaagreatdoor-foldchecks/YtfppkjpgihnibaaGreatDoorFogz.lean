/- Package fold: shownWords. Package fold: shownWords, walked. Package fold: Check: what its loop over the rounds comes to. Package fold: Check. Package fold: Check, walked. Package fold: Check answers as it must. -/
import Derived.Test.YtfppkjpgihnibaaGreatDoorFogs
import Derived.Test.YtfppkjpgihnibaaGreatDoorTrgx
namespace Go.Proofs.YtfppkjpgihnibaaGreatDoor
open Go.RowKit

theorem shz5_and (q n : Nat) (root : List Int) (N : Int) (ps : List Int) (rows nodes : List (List Int)) (pl : List Int) : shz5 q n root N ps rows nodes pl 2 = ((decide (ps = pl) && evc (fun k => ((rat rows k).length : Int) == 2) rows.length) && chkf q n root N ps rows nodes) := by
  unfold shz5
  congr 1
  congr 1
  rw [Bool.eq_iff_iff, decide_eq_true_eq, evc_iff]
  simp

section
variable {P : Program} {ops : Array Oper} {Q : Exit → Act → World → Prop} {md : Region.Mode} {S : World → Prop}
theorem drop_at {i : Nat} {oi : Oper} {rest : List Oper} (hl : ops.toList.drop i = oi :: rest) : ops[i]? = some oi := by
  have := congrArg (fun l => l[0]?) hl
  simpa [List.getElem?_drop] using this
/-- an operation is taken first; it is handed over written out -/
theorem wpAnyH_takeL {i : Nat} {oi : Oper} {rest : List Oper} {v : Value} {fuel : Nat} {listed : Array Bool} {a : Act} {w : World} (hl : ops.toList.drop i = oi :: rest)
    (hs : Region.noSelect ops = true) (hf : Region.free md ops listed i = true) (hr : (Region.ready md ops listed).contains i = true)
    (hQ : ∀ c a w, Q (.panic c) (a.put oi.dst v) w → Q (.panic c) a w) (hw : Region.wanted oi (yielded ops a.tmps) = true) (hy : ∀ w, S w → (execOp a.eval oi).run P w = .ok (.value v) w) (hS : S w)
    (h : wpAnyH P md ops Q S fuel (listed.setIfInBounds i true) (a.put oi.dst v) w) : wpAnyH P md ops Q S (fuel + 1) listed a w :=
  wpAnyH_take (drop_at hl) hs hf hr hQ (Or.inl ⟨hw, hy⟩) hS h
/-- an operation that isn't wanted -/
theorem wpAnyH_skipL {i : Nat} {oi : Oper} {rest : List Oper} {fuel : Nat} {listed : Array Bool} {a : Act} {w : World} (hl : ops.toList.drop i = oi :: rest)
    (hs : Region.noSelect ops = true) (hf : Region.free md ops listed i = true) (hr : (Region.ready md ops listed).contains i = true)
    (hQ : ∀ c a w, Q (.panic c) (a.put oi.dst undef) w → Q (.panic c) a w) (hw : Region.wanted oi (yielded ops a.tmps) = false) (hS : S w)
    (h : wpAnyH P md ops Q S fuel (listed.setIfInBounds i true) (a.put oi.dst undef) w) : wpAnyH P md ops Q S (fuel + 1) listed a w :=
  wpAnyH_take (drop_at hl) hs hf hr hQ (Or.inr ⟨hw, rfl⟩) hS h
theorem AllReadyH.consL {fuel : Nat} {listed : Array Bool} {a : Act} {w : World} {i : Nat} {o : Oper} {rest : List Oper} {rs : List Nat} (hl : ops.toList.drop i = o :: rest)
    (h : ∀ K' : Act → World → Prop, Shut (∀ a w, S w → (S w → wpAnyH P md ops Q S fuel (listed.setIfInBounds i true) a w) → K' a w) → if Region.wanted o (yielded ops a.tmps) = true then Oper.wp P o a w K' Q else K' (a.put o.dst undef) w)
    (hs : AllReadyH P md ops Q S fuel listed a w rs) : AllReadyH P md ops Q S fuel listed a w (i :: rs) := AllReadyH.cons (drop_at hl) h hs
end

/-- where a round's word may be asked for, and what it has there -/
def Pk (K m : Nat) (pl : List Int) (j : Nat) (place : Nat) : Prop := if j < m then place < 2 * 2 ^ (K - j - 1) ∧ ((place % 2 ^ (K - j - 1) : Nat) : Int) ∈ mdz pl (2 ^ (K - j - 1)) else place < 2 ^ (K - m)
def fk (q K m : Nat) (r s : Int) (os : List OnZ) (last : List Int) (j : Nat) (place : Nat) : Int := if j < m then zat (rw5 (onat os j) (place % 2 ^ (K - j - 1))) (place / 2 ^ (K - j - 1)) else evz q last (Dom.pt q (sqi q s m) (sqi q r m) place)
/-- what shownWords gives -/
def ShW (q K m : Nat) (r s : Int) (os : List OnZ) (last pl : List Int) (W : World) (v : Value) : Prop := ∃ vals : List Value, W.ownsRow 0 121 1 v (m + 1) vals ∧ ∀ j, j ≤ m → ∃ u, vals[j]? = some u ∧ KnW W u (Pk K m pl j) (fk q K m r s os last j)
/-- a function of a round, in its boxes -/
def BxA (N : Nat) (o : OnZ) (w0 W : World) (u : Value) : Prop := ∃ Bo Br ap cp ar cr vn, u = .func (.func 111) #[] #[.pointer (some ⟨Bo, 0, none⟩), .pointer (some ⟨Br, 0, none⟩)] ∧ W.heap[Bo]? = some (.cells #[.slice ap o.ps.length cp, .slice ar o.rows.length cr, vn] 107 (0, 0)) ∧ W.heap[Br]? = some (.cells #[.int .i64 (N : Int)] 3 (0, 0)) ∧ Lst w0.heap.size w0 ap cp o.ps ∧ LstR w0.heap.size w0 ar cr o.rows
theorem BxA.kept {N : Nat} {o : OnZ} {w0 W W' : World} {u : Value} (h : BxA N o w0 W u) (k : KO W W') : BxA N o w0 W' u := by
  obtain ⟨Bo, Br, ap, cp, ar, cr, vn, h1, h2, h3, h4, h5⟩ := h
  exact ⟨Bo, Br, ap, cp, ar, cr, vn, h1, (k.2 _ _ _ h2).trans h2, (k.1.2 _ _ _ _ h3 (.inl rfl)).trans h3, h4, h5⟩
theorem BxA.kn {N : Nat} {o : OnZ} {w0 W : World} {u : Value} (h : BxA N o w0 W u) (e : Below w0.heap.size w0 W) (pl : List Int) (hN : 1 ≤ N) (hN2 : N ≤ 65536) (hps : o.ps = mdz pl N) (hpl : o.ps.length ≤ 281474976710656) (hrl : o.rows.length = o.ps.length) (htwo : ∀ k, k < o.rows.length → (rat o.rows k).length = 2) :
    KnW W u (fun place => place < 2 * N ∧ ((place % N : Nat) : Int) ∈ mdz pl N) (fun place => zat (rw5 o (place % N)) (place / N)) := by
  obtain ⟨Bo, Br, ap, cp, ar, cr, vn, rfl, h2, h3, h4, h5⟩ := h
  refine ⟨_, Bo, Br, rfl, enters_of Tryz.func111 (by kernel_rfl) (by kernel_rfl), fun W' place hb hp => ?_⟩
  have hbb := e.trans (hb.mono e.size)
  have k2 := (hb.block _ (Array.getElem?_eq_some_iff.1 h2).1).trans h2
  have k3 := (hb.block _ (Array.getElem?_eq_some_iff.1 h3).1).trans h3
  refine known1_any Bo Br N cp cr place ap ar o.ps o.rows W' (thr0 k2) (thr1 k2) (by simp [World.cell?, k3]) ?_ hpl ((h4.below hbb).mono hbb.size) ((h5.below hbb).mono hbb.size) hrl htwo hN hN2 hp.1 ?_
  · rw [hps]; exact (onc_is _).1
  · rw [hps]; exact hp.2

/-- append(l, f) -/
theorem wpList_fun1 {ops : Array Oper} {rest : List Oper} {o : Oper} {act : Act} {Q : Exit → Act → World → Prop} (W : World) (hgd : o.guard = none) (s x : Operand)
    (ho : o.op = .call { callee := .builtin .append, args := #[s, x], argTypes := #[116, 116] }) (v u : Value) (n base : Nat) (vals : List Value)
    (hown : W.ownsRow base 121 1 v n vals) (hone : u.oneCell' = true) (hs : act.eval s = v) (hx : act.eval x = .slice (some ⟨W.heap.size, 0, none⟩) 1 1) (hlen : n + 1 ≤ 4000000000000) (hbase : base ≤ W.heap.size)
    (h : ∀ v' w2, w2.ownsRow base 121 1 v' (n + 1) (vals ++ [u]) → Below base W w2 → W.grownBy w2 v.ownBlock → wpList Tryz.prog ops Q rest (act.put o.dst v') w2) :
    wpList Tryz.prog ops Q (o :: rest) act (W.alloc (.cells #[u] 121)) := by
  have hbw : Below W.heap.size W (W.alloc (.cells #[u] 121)) := (Below.refl _ _).alloc (Nat.le_refl _) _
  obtain ⟨i0, hi, hz0, hz1, hz2⟩ := info_parts (show (Tryz.prog.info? 121).map (fun i => (i.zero, i.size, i.bytes)) = some (some .nilFunc, 1, 8) by kernel_rfl)
  have h1 : (W.alloc (.cells #[u] 121)).ownsRow base 121 1 v n vals := hown.kept (gb_of_below hbw) (by cases Value.ownBlock v with
    | none => exact .inl rfl
    | some k => exact .inr (by simp))
  refine wpList_append_own _ hgd s x 116 ho base 121 i0 .nilFunc 1 8 Tryz.underlying116 hi hz0 hz1 hz2 rfl (by decide) _ _ _ hs h1 ⟨W.heap.size, 0, none⟩ 1 1 [u] hx rfl ?_ ?_ (by unfold maxLen; omega) (by omega) (by simp; omega) ?_
  · intro j t hj
    match j, hj with
    | 0, hj => simp at hj; subst hj; simp [Addr.add]
  · intro t ht
    obtain rfl : t = u := by simpa using ht
    exact hone
  · intro v' w2 hown2 hgrow _
    have hB0 : Below base (W.alloc (.cells #[u] 121)) w2 := (Below.refl base _).grown hgrow (by simp; omega) (fun k hk => (h1.lt k hk).1)
    exact h v' w2 hown2 ((hbw.mono hbase).trans hB0) ⟨hgrow.os, hgrow.tape, hgrow.output, by have := hgrow.size; simp at this; omega, fun k hk hne => (hgrow.block k (by simp; omega) hne).trans (hbw.block k hk)⟩

/-- the block of a row is of its kind -/
theorem owns_kind {w : World} {base n : Nat} {e : TypeId} {v : Value} {xs : List Value} (h : w.ownsRow base e 1 v n xs) {g : Nat} (hg : v.ownBlock = some g) : ∃ cs, w.heap[g]? = some (.cells cs e (0, 0)) := by
  rcases h.2 with ⟨rfl, _⟩ | ⟨g', cap, cur, rfl, _, h2, _⟩
  · cases hg
  · cases hg
    exact ⟨cur, h2⟩
theorem ko_grown {W W' : World} {base n : Nat} {e : TypeId} {v : Value} {xs : List Value} (h : W.ownsRow base e 1 v n xs) (h1 : e ≠ 3) (h2 : e ≠ 22) (h3 : e ≠ 107) (g : W.grownBy W' v.ownBlock) : KO W W' := by
  cases hv : v.ownBlock with
  | none =>
    rw [hv] at g
    exact ⟨⟨g.size, fun b _ _ _ hb _ => g.block b (Array.getElem?_eq_some_iff.1 hb).1 (by simp)⟩, fun b _ _ hb => g.block b (Array.getElem?_eq_some_iff.1 hb).1 (by simp)⟩
  | some k =>
    rw [hv] at g
    obtain ⟨cs, hk⟩ := owns_kind h hv
    exact KO.oth hk h1 h2 h3 g.size (fun b hb hne => gb_blk g hb hne)

/-- all Openings show what they must -/
def OkA (q n K m : Nat) (roots : List (List Int)) (os : List OnZ) (pl : List Int) : Prop := os.length = m ∧ ∀ i, i < m → shz5 q n (rat roots i) ((2 ^ (K - i - 1) : Nat) : Int) (onat os i).ps (onat os i).rows (onat os i).nodes (mdz pl (2 ^ (K - i - 1))) 2 = true

/-- what shownWords stands on -/
structure ShP (q n dd b s bs K m : Nat) (r t : Int) (roots : List (List Int)) (last : List Int) (os : List OnZ) (pl : List Int) (a1 a2 a3 al : Option Addr) (c1 c2 c3 cl : Nat) (ds : List Nat) (go co : Nat) (w : World) : Prop where
  ok : SpgOk q n dd
  sp : SpgAt w s bs q n dd
  fb : FdB roots last os
  fd : FdL w a1 a2 a3 c1 c2 c3 roots last os
  rl : roots.length = m
  dm : DmL q b K m r t w ds
  ov : ∀ k, k ≤ m → w.cell? ⟨go, k, none⟩ = some (.pointer (some ⟨ds.getD k 0, 0, none⟩))
  hK : K ≤ 16
  hm : m + 1 ≤ K
  pl1 : pl.length ≤ 1000
  pl2 : ∀ j, j < pl.length → 0 ≤ zat pl j ∧ zat pl j ≤ 9223372036854775807
  lp : Lst w.heap.size w al cl pl

end Go.Proofs.YtfppkjpgihnibaaGreatDoor

namespace Go.Proofs.YtfppkjpgihnibaaGreatDoor
open Go.RowKit

set_option maxRecDepth 100000 in
set_option maxHeartbeats 4000000 in
theorem shownwords_any (q n dd b s bs K m : Nat) (r t : Int) (roots : List (List Int)) (last : List Int) (os : List OnZ) (pl : List Int) (a1 a2 a3 al : Option Addr) (c1 c2 c3 cl : Nat) (ds : List Nat) (go co : Nat) (w : World) (H : ShP q n dd b s bs K m r t roots last os pl a1 a2 a3 al c1 c2 c3 cl ds go co w) :
    Calls Tryz.prog 60 #[.pointer (some ⟨s, 0, none⟩), .slice (some ⟨go, 0, none⟩) (m + 1) co, .agg #[.slice a1 roots.length c1, .slice a2 last.length c2, .slice a3 os.length c3], .slice al pl.length cl] w fun e w' =>
      (OkA q n K m roots os pl → ∃ v, e = .returned (.tuple #[v, .bool true]) ∧ ShW q K m r t os last pl w' v) ∧ (¬ OkA q n K m roots os pl → e = .returned (.tuple #[.slice none 0 0, .bool false])) ∧ Below w.heap.size w w' := by
  have hmx : Tryz.prog.follows .mixedOrders = true := by kernel_rfl
  have hmf : ∀ (fn : Fn) (first cap : Array Value) (w : World), (Instr.makeFunc fn first cap).run Tryz.prog w = .ok (.func fn first cap) w := fun _ _ _ _ => rfl
  have HH := hid H
  have hK := H.hK
  have hmK := H.hm
  have HRL := hid H.rl
  have hpow : 2 ^ K ≤ 2 ^ 16 := Nat.pow_le_pow_right (by omega) hK
  obtain ⟨W0, hW0⟩ : ∃ W0, W0 = w.alloc (.cells #[.slice a1 roots.length c1, .slice a2 last.length c2, .slice a3 os.length c3] 36) := ⟨_, rfl⟩
  have hb0 : Below w.heap.size w W0 := by rw [hW0]; exact (Below.refl _ _).alloc (Nat.le_refl _) _
  have hF : W0.heap[w.heap.size]? = some (.cells #[.slice a1 roots.length c1, .slice a2 last.length c2, .slice a3 os.length c3] 36 (0, 0)) := by rw [hW0]; exact heap_alloc_new w _
  have hWs : W0.heap.size = w.heap.size + 1 := by rw [hW0]; simp
  rw [H.rl] at hW0 hF ⊢
  have d0 := thr0 hF
  have d1 := thr1 hF
  have d2 := thr2 hF
  by_cases hol : os.length = m
  · rw [hol] at hW0 hF d2 ⊢
    have HOL := hid hol
    have HFF : Hid (∀ W, Below W0.heap.size W0 W → W.cell? ⟨w.heap.size, 0, none⟩ = some (.slice a1 m c1) ∧ W.cell? ⟨w.heap.size, 1, none⟩ = some (.slice a2 last.length c2)) := fun W hb =>
      ⟨(hb.cell (p := ⟨w.heap.size, 0, none⟩) (heap_lt d0)).trans d0, (hb.cell (p := ⟨w.heap.size, 1, none⟩) (heap_lt d0)).trans d1⟩
    have HB0 := hid hb0
    have HWS := hid hWs
    have hm16 : m ≤ 16 := by omega
    obtain ⟨nl, hnl⟩ : ∃ nl, nl = pl.length := ⟨_, rfl⟩
    rw [← hnl]
    have HNL := hid hnl
    obtain ⟨m1, hm1⟩ : ∃ m1, m1 = m + 1 := ⟨_, rfl⟩
    rw [← hm1]
    have HM1 := hid hm1
    clear hF hol H hb0 hWs hnl hm1
    go_enter Tryz.func60, Tryz.ntmps60
    go_wp2_with fail
    rw [← hW0]
    clear hW0
    go_wp2_with fail
    go_loopw [10, 26] (fun v iv wr => ∃ i : Nat, i ≤ m ∧ iv = .int .i64 i ∧ Hid (∃ vals, wr.ownsRow W0.heap.size 121 1 v i vals ∧ (∀ j, j < i → ∃ u, vals[j]? = some u ∧ BxA (2 ^ (K - j - 1)) (onat os j) w wr u) ∧ (∀ j, j < i → shz5 q n (rat roots j) ((2 ^ (K - j - 1) : Nat) : Int) (onat os j).ps (onat os j).rows (onat os j).nodes (mdz pl (2 ^ (K - j - 1))) 2 = true) ∧ Below W0.heap.size W0 wr)) (fun _ iv _ => m - (intOf iv).toNat)
    case atStart => exact ⟨0, by omega, rfl, [], World.ownsRow_nil _ _ _ _, fun j hj => by omega, fun j hj => by omega, Below.refl _ _⟩
    case round =>
      obtain ⟨i, hi, rfl, hI⟩ := hrel
      by_cases hlt : i < m
      · have hlt2 : (i : Int) < (m : Int) := by omega
        have hlt3 : (i : Int) < (m1 : Int) := by have := HM1.out; omega
        have his : IntKind.i64.wrap ((i : Int) + 1) = (i : Int) + 1 := by rw [IntKind.wrap_i64]; omega
        obtain ⟨vals, hvo, hvb, hvs, hbw⟩ := hI.out
        have hbww := HB0.out.trans (hbw.mono HB0.out.size)
        obtain ⟨x0, x1⟩ := HFF.out wr hbw
        obtain ⟨bo, oo, ap, cp, ar, cr, an', cn, rfl, hbo, e3, e4, e5, e6, e7, e8⟩ := HH.out.fd.o.row i (by rw [HOL.out]; exact hlt)
        have y3 := (hbww.cell (p := ⟨bo, oo + i * 3, none⟩) hbo).trans e3
        have y4 := (hbww.cell (p := ⟨bo, oo + i * 3 + 1, none⟩) hbo).trans e4
        have y5 := (hbww.cell (p := ⟨bo, oo + i * 3 + 2, none⟩) hbo).trans e5
        have z1 := (hbww.cell (p := ⟨go, i, none⟩) (World.block_lt_of_cell? _ _ (HH.out.ov i (by omega)))).trans (HH.out.ov i (by omega))
        have hgo : go < wr.heap.size := World.block_lt_of_cell? _ _ z1
        obtain ⟨N, hN⟩ : ∃ N, N = 2 ^ (K - i - 1) := ⟨_, rfl⟩
        have hN1 : 1 ≤ N := by rw [hN]; exact Nat.two_pow_pos _
        have hN2 : N ≤ 65536 := by rw [hN]; exact Nat.le_trans (Nat.pow_le_pow_right (by omega) (show K - i - 1 ≤ 16 by omega)) (by decide)
        have hNN : 2 ^ (K - i) = 2 * N := by
          have h2 : 2 ^ (K - i) = 2 ^ ((K - i - 1) + 1) := by congr 1; omega
          rw [h2, Nat.pow_succ, ← hN]; omega
        obtain ⟨NN, hNq⟩ : ∃ NN, NN = 2 * N := ⟨_, rfl⟩
        have q0 : (NN : Int) / 2 = (N : Int) := by omega
        have q1 : (NN : Int).tdiv 2 = (N : Int) := by rw [Int.tdiv_eq_ediv_of_nonneg (by omega)]; omega
        have q2 : IntKind.i64.wrap (N : Int) = (N : Int) := by rw [IntKind.wrap_i64]; omega
        have q3 : 0 ≤ (NN : Int) := by omega
        have HSZ : Hid (∀ W, Below wr.heap.size wr W → Calls Tryz.prog 36 #[.pointer (some ⟨ds.getD i 0, 0, none⟩)] W fun e w' => e = .returned (.int .i64 (NN : Int)) ∧ w' = W) := fun W hb => by
          have D := (HH.out.dm.dom i (by omega)).step (hbww.trans (hb.mono hbww.size))
          have := size_any _ b _ _ _ W D.da
          rwa [hNN, ← hNq] at this
        obtain ⟨di, hdi⟩ : ∃ di, di = ds.getD i 0 := ⟨_, rfl⟩
        rw [← hdi] at z1 HSZ
        obtain ⟨n1, hn1⟩ : ∃ n1, n1 = (onat os i).ps.length := ⟨_, rfl⟩
        obtain ⟨n2, hn2⟩ : ∃ n2, n2 = (onat os i).rows.length := ⟨_, rfl⟩
        obtain ⟨n3, hn3⟩ : ∃ n3, n3 = (onat os i).nodes.length := ⟨_, rfl⟩
        rw [← hn1] at y3
        rw [← hn2] at y4
        rw [← hn3] at y5
        have HNs := hid (⟨hn1, hn2, hn3⟩ : n1 = (onat os i).ps.length ∧ n2 = (onat os i).rows.length ∧ n3 = (onat os i).nodes.length)
        have HVL := hid (⟨e6, e7, e8⟩ : Lst w.heap.size w ap cp (onat os i).ps ∧ LstR w.heap.size w ar cr (onat os i).rows ∧ LstR w.heap.size w an' cn (onat os i).nodes)
        have HBW := hid hbw
        have HN := hid hN
        have HVV := hid (⟨hvo, hvb, hvs⟩ : wr.ownsRow W0.heap.size 121 1 u10 i vals ∧ (∀ j, j < i → ∃ u, vals[j]? = some u ∧ BxA (2 ^ (K - j - 1)) (onat os j) w wr u) ∧ (∀ j, j < i → shz5 q n (rat roots j) ((2 ^ (K - j - 1) : Nat) : Int) (onat os j).ps (onat os j).rows (onat os j).nodes (mdz pl (2 ^ (K - j - 1))) 2 = true))
        clear hI hvo hvb hvs hbw hbww hbo e3 e4 e5 e6 e7 e8 hn1 hn2 hn3 hdi hNN hNq hN
        have HBA : Hid (Below wr.heap.size wr (wr.alloc (.cells #[.slice ap n1 cp, .slice ar n2 cr, .slice an' n3 cn] 107))) := (Below.refl _ _).alloc (Nat.le_refl _) _
        have HOA : Hid ((wr.alloc (.cells #[.slice ap n1 cp, .slice ar n2 cr, .slice an' n3 cn] 107)).heap[wr.heap.size]? = some (.cells #[.slice ap n1 cp, .slice ar n2 cr, .slice an' n3 cn] 107 (0, 0))) := heap_alloc_new _ _
        obtain ⟨br, orr, ak, ck, rfl, hrb, g3, g4⟩ := HH.out.fd.r.row i (by rw [HRL.out]; exact hlt)
        have HG3 := hid g3
        have HG4 := hid g4
        have HRB := hid hrb
        clear hrb g3 g4
        go_wp2_with fail
        refine (HSZ.out _ HBA.out).mono ?_
        generalize wr.alloc (.cells #[.slice ap n1 cp, .slice ar n2 cr, .slice an' n3 cn] 107) = A1 at *
        rintro e w1 ⟨rfl, rfl⟩
        have HB2 : Hid (Below w1.heap.size w1 (w1.alloc (.cells #[.int .i64 (N : Int)] 3))) := (Below.refl _ _).alloc (Nat.le_refl _) _
        have HO2 : Hid ((w1.alloc (.cells #[.int .i64 (N : Int)] 3)).heap[w1.heap.size]? = some (.cells #[.int .i64 (N : Int)] 3 (0, 0))) := heap_alloc_new _ _
        go_wp2_with fail
        generalize w1.alloc (.cells #[.int .i64 (N : Int)] 3) = A2 at *
        have hbA2 : Below w.heap.size w A2 := by
          have h1 := HB0.out.trans (HBW.out.mono HB0.out.size)
          have h2 := h1.trans (HBA.out.mono h1.size)
          exact h2.trans (HB2.out.mono h2.size)
        have HBA2 := hid hbA2
        have HO3 := hid ((HB2.out.block _ (Array.getElem?_eq_some_iff.1 HOA.out).1).trans HOA.out)
        have HFA : Hid (W0.heap.size ≤ A2.heap.size ∧ Below W0.heap.size W0 A2) := by
          have h1 := HBW.out
          have h2 := h1.trans (HBA.out.mono h1.size)
          have h3 := h2.trans (HB2.out.mono h2.size)
          exact ⟨h3.size, h3⟩
        obtain ⟨rn, hrn⟩ : ∃ rn, rn = (rat roots i).length := ⟨_, rfl⟩
        have HKP : Hid (∀ W, Below A2.heap.size A2 W → W.cell? ⟨wr.heap.size, 0, none⟩ = some (.slice ap n1 cp) ∧ W.cell? ⟨wr.heap.size, 1, none⟩ = some (.slice ar n2 cr) ∧ W.cell? ⟨wr.heap.size, 2, none⟩ = some (.slice an' n3 cn) ∧ W.cell? ⟨w1.heap.size, 0, none⟩ = some (.int .i64 (N : Int)) ∧ W.cell? ⟨w.heap.size, 0, none⟩ = some (.slice (some ⟨br, orr, none⟩) m c1) ∧ W.cell? ⟨br, orr + i, none⟩ = some (.slice ak rn ck)) := fun W hb => by
          have k1 := (hb.block _ (Array.getElem?_eq_some_iff.1 HO3.out).1).trans HO3.out
          have k2 := (hb.block _ (Array.getElem?_eq_some_iff.1 HO2.out).1).trans HO2.out
          have hbb := HBA2.out.trans (hb.mono HBA2.out.size)
          refine ⟨thr0 k1, thr1 k1, thr2 k1, by simp [World.cell?, k2], (HFF.out W (HFA.out.2.trans (hb.mono HFA.out.1))).1, ?_⟩
          rw [hrn]
          exact (hbb.cell (p := ⟨br, orr + i, none⟩) HRB.out).trans HG3.out
        obtain ⟨o1, o2, o3, o4, o5, o6, o7, o8⟩ := HH.out.fb.o2 i (by rw [HOL.out]; exact hlt)
        have HWI : Hid (∀ W, Below A2.heap.size A2 W → Calls Tryz.prog 93 #[.slice al nl cl, .int .i64 (N : Int)] W fun e w' => ∃ av cv, e = .returned (.slice av (mdz pl N).length cv) ∧ RowB w'.heap.size w' av (mdz pl N) ∧ Below A2.heap.size A2 w') := fun W hb => by
          have hbb := HBA2.out.trans (hb.mono HBA2.out.size)
          have := within_any cl N al pl W hN1 hN2 HH.out.pl1 HH.out.pl2 ((HH.out.lp.below hbb).mono hbb.size)
          rw [← HNL.out] at this
          refine this.mono ?_
          rintro e w' ⟨v, rfl, ho, hb'⟩
          obtain ⟨av, cv, rfl, hr⟩ := rowB_of_owns ho
          exact ⟨av, cv, rfl, hr, hb.trans (hb'.mono hb.size)⟩
        obtain ⟨bA, hbA'⟩ : ∃ bA, bA = (decide ((onat os i).ps = mdz pl N) && evc (fun k => ((rat (onat os i).rows k).length : Int) == 2) (onat os i).rows.length) := ⟨_, rfl⟩
        obtain ⟨bC, hbC'⟩ : ∃ bC, bC = chkf q n (rat roots i) ((N : Nat) : Int) (onat os i).ps (onat os i).rows (onat os i).nodes := ⟨_, rfl⟩
        have HSH : Hid (shz5 q n (rat roots i) ((2 ^ (K - i - 1) : Nat) : Int) (onat os i).ps (onat os i).rows (onat os i).nodes (mdz pl (2 ^ (K - i - 1))) 2 = (bA && bC)) := by
          unfold Hid
          rw [shz5_and, ← HN.out, hbA', hbC']
        have HAP : Hid (∀ (W : World) (av : Option Addr) (cv : Nat), Below A2.heap.size A2 W → RowB W.heap.size W av (mdz pl N) → Calls Tryz.prog 109 #[.agg #[.slice ap n1 cp, .slice ar n2 cr, .slice an' n3 cn], .slice av (mdz pl N).length cv] W fun e w' => e = .returned (.bool bA) ∧ Below A2.heap.size A2 w') := fun W av cv hb hr => by
          have hbb := HBA2.out.trans (hb.mono HBA2.out.size)
          have := arepairs_any cp cr cv ap ar av (.slice an' n3 cn) (onat os i).ps (onat os i).rows (mdz pl N) W (by omega) (by omega) ((HVL.out.1.below hbb).mono hbb.size).row ((HVL.out.2.1.below hbb).mono hbb.size) hr
          rw [← HNs.out.1, ← HNs.out.2.1] at this
          refine this.mono ?_
          rintro e w' ⟨rfl, hb'⟩
          rw [hbA', HNs.out.2.1]
          exact ⟨rfl, hb.trans (hb'.mono hb.size)⟩
        have HCK : Hid (∀ W, Below A2.heap.size A2 W → Calls Tryz.prog 110 #[.pointer (some ⟨s, 0, none⟩), .slice ak rn ck, .int .i64 (N : Int), .agg #[.slice ap n1 cp, .slice ar n2 cr, .slice an' n3 cn]] W fun e w' => e = .returned (.bool bC) ∧ Below A2.heap.size A2 w') := fun W hb => by
          have hbb := HBA2.out.trans (hb.mono HBA2.out.size)
          have := check_any q n dd bs s ck cp cr cn ak ap ar an' (rat roots i) (N : Int) (onat os i).ps (onat os i).rows (onat os i).nodes W HH.out.ok (HH.out.sp.below hbb HH.out.sp.lt HH.out.sp.ltb) (by omega) (by omega) (by omega) (by omega) (HH.out.fb.r3 i (by rw [HRL.out]; exact hlt)).1 o6 o7 o8 ((HG4.out.below hbb).mono hbb.size) ((HVL.out.1.below hbb).mono hbb.size) ((HVL.out.2.1.below hbb).mono hbb.size) ((HVL.out.2.2.below hbb).mono hbb.size)
          rw [← HNs.out.1, ← HNs.out.2.1, ← HNs.out.2.2, ← hrn] at this
          refine this.mono ?_
          rintro e w' ⟨rfl, hb'⟩
          rw [hbC']
          exact ⟨rfl, hb.trans (hb'.mono hb.size)⟩
        have hdd : Below A2.heap.size A2 A2.drew := (Below.refl _ _).drew
        have hd0 : Below A2.heap.size A2 A2 := Below.refl _ _
        clear hbA2 o1 o2 o3 o4 o5 o6 o7 o8 hbA' hbC' hrn x0 x1 y3 y4 y5 z1
        generalize (mdz pl N).length = ml at *
        cases bA with
        | false =>
          refine wp_region_held_drew (S := (fun W => W.cell? ⟨wr.heap.size, 0, none⟩ = some (.slice ap n1 cp) ∧ W.cell? ⟨wr.heap.size, 1, none⟩ = some (.slice ar n2 cr) ∧ W.cell? ⟨wr.heap.size, 2, none⟩ = some (.slice an' n3 cn) ∧ W.cell? ⟨w1.heap.size, 0, none⟩ = some (.int .i64 (N : Int)) ∧ W.cell? ⟨w.heap.size, 0, none⟩ = some (.slice (some ⟨br, orr, none⟩) m c1) ∧ W.cell? ⟨br, orr + i, none⟩ = some (.slice ak rn ck))) (by kernel_rfl) (HKP.out _ hdd) (fun hHeld => ?_)
          refine wpAnyH_takeL (i := 0) (v := .agg #[.slice ap n1 cp, .slice ar n2 cr, .slice an' n3 cn]) rfl (by kernel_rfl) (by kernel_rfl) (by kernel_rfl) (fun _ _ _ h => h) (by rfl) (fun W hC => by (obtain ⟨k0, k1, k2, k3, k4, k5⟩ := hC); go_simp) hHeld ?_
          simp only [Act.put, List.setIfInBounds_toArray, List.set_cons_zero, List.set_cons_succ]
          refine wpAnyH_takeL (i := 1) (v := .slice al nl cl) rfl (by kernel_rfl) (by kernel_rfl) (by kernel_rfl) (fun _ _ _ h => h) (by rfl) (fun W hC => by (obtain ⟨k0, k1, k2, k3, k4, k5⟩ := hC); go_simp) hHeld ?_
          simp only [Act.put, List.setIfInBounds_toArray, List.set_cons_zero, List.set_cons_succ]
          refine wpAnyH_takeL (i := 2) (v := .int .i64 (N : Int)) rfl (by kernel_rfl) (by kernel_rfl) (by kernel_rfl) (fun _ _ _ h => h) (by rfl) (fun W hC => by (obtain ⟨k0, k1, k2, k3, k4, k5⟩ := hC); go_simp) hHeld ?_
          simp only [Act.put, List.setIfInBounds_toArray, List.set_cons_zero, List.set_cons_succ]
          refine wpAnyH_ready (rs := [3]) (by kernel_rfl) (by simp) ?_
          refine AllReadyH.consL rfl (fun K hK => ?_) AllReadyH.nil
          go_simp
          refine (HWI.out _ hdd).mono ?_
          rintro e w' ⟨av, cv, rfl, hrr, hb'⟩
          go_wp2_with fail
          refine hK.out _ _ (HKP.out _ hb') (fun hHeld => ?_)
          clear hK K
          refine wpAnyH_ready (rs := [4]) (by kernel_rfl) (by simp) ?_
          refine AllReadyH.consL rfl (fun K hK => ?_) AllReadyH.nil
          go_simp
          refine (HAP.out _ av cv hb' hrr).mono ?_
          rintro e w'' ⟨rfl, hb''⟩
          go_wp2_with fail
          refine hK.out _ _ (HKP.out _ hb'') (fun hHeld => ?_)
          clear hK K
          refine wpAnyH_takeL (i := 5) (v := .bool true) rfl (by kernel_rfl) (by kernel_rfl) (by kernel_rfl) (fun _ _ _ h => h) (by rfl) (fun W hC => by (obtain ⟨k0, k1, k2, k3, k4, k5⟩ := hC); go_simp) hHeld ?_
          simp only [Act.put, List.setIfInBounds_toArray, List.set_cons_zero, List.set_cons_succ]
          refine wpAnyH_takeL (i := 6) (v := .bool true) rfl (by kernel_rfl) (by kernel_rfl) (by kernel_rfl) (fun _ _ _ h => h) (by rfl) (fun W hC => by (obtain ⟨k0, k1, k2, k3, k4, k5⟩ := hC); go_simp) hHeld ?_
          simp only [Act.put, List.setIfInBounds_toArray, List.set_cons_zero, List.set_cons_succ]
          refine wpAnyH_skipL (i := 7) rfl (by kernel_rfl) (by kernel_rfl) (by kernel_rfl) (fun _ _ _ h => h) (by rfl) hHeld ?_
          simp only [Act.put, List.setIfInBounds_toArray, List.set_cons_zero, List.set_cons_succ]
          refine wpAnyH_skipL (i := 8) rfl (by kernel_rfl) (by kernel_rfl) (by kernel_rfl) (fun _ _ _ h => h) (by rfl) hHeld ?_
          simp only [Act.put, List.setIfInBounds_toArray, List.set_cons_zero, List.set_cons_succ]
          refine wpAnyH_skipL (i := 9) rfl (by kernel_rfl) (by kernel_rfl) (by kernel_rfl) (fun _ _ _ h => h) (by rfl) hHeld ?_
          simp only [Act.put, List.setIfInBounds_toArray, List.set_cons_zero, List.set_cons_succ]
          refine wpAnyH_skipL (i := 10) rfl (by kernel_rfl) (by kernel_rfl) (by kernel_rfl) (fun _ _ _ h => h) (by rfl) hHeld ?_
          simp only [Act.put, List.setIfInBounds_toArray, List.set_cons_zero, List.set_cons_succ]
          refine wpAnyH_skipL (i := 11) rfl (by kernel_rfl) (by kernel_rfl) (by kernel_rfl) (fun _ _ _ h => h) (by rfl) hHeld ?_
          simp only [Act.put, List.setIfInBounds_toArray, List.set_cons_zero, List.set_cons_succ]
          refine wpAnyH_skipL (i := 12) rfl (by kernel_rfl) (by kernel_rfl) (by kernel_rfl) (fun _ _ _ h => h) (by rfl) hHeld ?_
          simp only [Act.put, List.setIfInBounds_toArray, List.set_cons_zero, List.set_cons_succ]
          refine wpAnyH_skipL (i := 13) rfl (by kernel_rfl) (by kernel_rfl) (by kernel_rfl) (fun _ _ _ h => h) (by rfl) hHeld ?_
          simp only [Act.put, List.setIfInBounds_toArray, List.set_cons_zero, List.set_cons_succ]
          refine wpAnyH_skipL (i := 14) rfl (by kernel_rfl) (by kernel_rfl) (by kernel_rfl) (fun _ _ _ h => h) (by rfl) hHeld ?_
          simp only [Act.put, List.setIfInBounds_toArray, List.set_cons_zero, List.set_cons_succ]
          refine wpAnyH_skipL (i := 15) rfl (by kernel_rfl) (by kernel_rfl) (by kernel_rfl) (fun _ _ _ h => h) (by rfl) hHeld ?_
          simp only [Act.put, List.setIfInBounds_toArray, List.set_cons_zero, List.set_cons_succ]
          refine wpAnyH_skipL (i := 16) rfl (by kernel_rfl) (by kernel_rfl) (by kernel_rfl) (fun _ _ _ h => h) (by rfl) hHeld ?_
          simp only [Act.put, List.setIfInBounds_toArray, List.set_cons_zero, List.set_cons_succ]
          refine wpAnyH_takeL (i := 17) (v := .bool true) rfl (by kernel_rfl) (by kernel_rfl) (by kernel_rfl) (fun _ _ _ h => h) (by rfl) (fun W hC => by (obtain ⟨k0, k1, k2, k3, k4, k5⟩ := hC); go_simp) hHeld ?_
          simp only [Act.put, List.setIfInBounds_toArray, List.set_cons_zero, List.set_cons_succ]
          refine wpAnyH_done (by kernel_rfl) ?_ _
          have HBX := hid (HBA2.out.trans (hb''.mono HBA2.out.size))
          go_wp2_with fail
          go_ret2
          exact ⟨fun h => absurd (h.2 i hlt) (by rw [HSH.out]; simp), fun _ => rfl, HBX.out⟩
        | true =>
          cases bC with
          | false =>
            go_region_held3 (fun W => W.cell? ⟨wr.heap.size, 0, none⟩ = some (.slice ap n1 cp) ∧ W.cell? ⟨wr.heap.size, 1, none⟩ = some (.slice ar n2 cr) ∧ W.cell? ⟨wr.heap.size, 2, none⟩ = some (.slice an' n3 cn) ∧ W.cell? ⟨w1.heap.size, 0, none⟩ = some (.int .i64 (N : Int)) ∧ W.cell? ⟨w.heap.size, 0, none⟩ = some (.slice (some ⟨br, orr, none⟩) m c1) ∧ W.cell? ⟨br, orr + i, none⟩ = some (.slice ak rn ck)) (exact HKP.out _ (by assumption))
              (first
                | (go_at_call 93; refine (HWI.out _ (by assumption)).mono ?_; rintro e w' ⟨av, cv, rfl, hrr, hb'⟩)
                | (go_at_call 109; refine (HAP.out _ _ _ (by assumption) (by assumption)).mono ?_; rintro e w' ⟨rfl, hb'⟩)
                | (go_at_call 110; refine (HCK.out _ (by assumption)).mono ?_; rintro e w' ⟨rfl, hb'⟩))
            have HBX := hid (HBA2.out.trans (hb'.mono HBA2.out.size))
            go_wp2_with fail
            go_ret2
            exact ⟨fun h => absurd (h.2 i hlt) (by rw [HSH.out]; simp), fun _ => rfl, HBX.out⟩
          | true =>
            go_region_held3 (fun W => W.cell? ⟨wr.heap.size, 0, none⟩ = some (.slice ap n1 cp) ∧ W.cell? ⟨wr.heap.size, 1, none⟩ = some (.slice ar n2 cr) ∧ W.cell? ⟨wr.heap.size, 2, none⟩ = some (.slice an' n3 cn) ∧ W.cell? ⟨w1.heap.size, 0, none⟩ = some (.int .i64 (N : Int)) ∧ W.cell? ⟨w.heap.size, 0, none⟩ = some (.slice (some ⟨br, orr, none⟩) m c1) ∧ W.cell? ⟨br, orr + i, none⟩ = some (.slice ak rn ck)) (exact HKP.out _ (by assumption))
              (first
                | (go_at_call 93; refine (HWI.out _ (by assumption)).mono ?_; rintro e w' ⟨av, cv, rfl, hrr, hb'⟩)
                | (go_at_call 109; refine (HAP.out _ _ _ (by assumption) (by assumption)).mono ?_; rintro e w' ⟨rfl, hb'⟩)
                | (go_at_call 110; refine (HCK.out _ (by assumption)).mono ?_; rintro e w' ⟨rfl, hb'⟩))
            have hbX := hb'
            obtain ⟨uF, huF⟩ : ∃ uF : Value, uF = .func (.func 111) #[] #[.pointer (some ⟨wr.heap.size, 0, none⟩), .pointer (some ⟨w1.heap.size, 0, none⟩)] := ⟨_, rfl⟩
            have hWX : Below wr.heap.size wr w' := by
              have h1 := HBA.out
              have h2 := h1.trans (HB2.out.mono h1.size)
              exact h2.trans (hbX.mono h2.size)
            have HOX : Hid (w'.ownsRow W0.heap.size 121 1 u10 i vals) := HVV.out.1.kept (gb_of_below hWX) (by cases Value.ownBlock u10 with
              | none => exact .inl rfl
              | some k => exact .inr (by simp))
            have HBN : Hid (BxA N (onat os i) w w' uF) := by
              refine ⟨wr.heap.size, w1.heap.size, ap, cp, ar, cr, .slice an' n3 cn, huF, ?_, ?_, HVL.out.1, HVL.out.2.1⟩
              · rw [← HNs.out.1, ← HNs.out.2.1]
                exact (hbX.block _ (Array.getElem?_eq_some_iff.1 HO3.out).1).trans HO3.out
              · exact (hbX.block _ (Array.getElem?_eq_some_iff.1 HO2.out).1).trans HO2.out
            have HWX := hid hWX
            have HZX : Hid (W0.heap.size ≤ w'.heap.size ∧ Below W0.heap.size W0 w') := by
              have h1 := HBW.out.trans (hWX.mono HBW.out.size)
              exact ⟨h1.size, h1⟩
            clear hWX
            rw [huF] at HBN
            go_wp2_with (at_builtin; refine wpList_fun1 w' rfl _ _ rfl _ _ i W0.heap.size vals HOX.out rfl rfl rfl (by omega) HZX.out.1 ?_)
            intro v2 w2 ho2 hb2 hg2
            rw [← huF] at ho2 HBN
            have HE : Hid (∃ vals, w2.ownsRow W0.heap.size 121 1 v2 (i + 1) vals ∧ (∀ j, j < i + 1 → ∃ u, vals[j]? = some u ∧ BxA (2 ^ (K - j - 1)) (onat os j) w w2 u) ∧ (∀ j, j < i + 1 → shz5 q n (rat roots j) ((2 ^ (K - j - 1) : Nat) : Int) (onat os j).ps (onat os j).rows (onat os j).nodes (mdz pl (2 ^ (K - j - 1))) 2 = true) ∧ Below W0.heap.size W0 w2) := by
              have hko := ko_grown HOX.out (by decide) (by decide) (by decide) hg2
              have hvl : vals.length = i := by have := HOX.out.1; omega
              refine ⟨vals ++ [uF], ho2, fun j hj => ?_, fun j hj => ?_, HZX.out.2.trans hb2⟩
              · rcases Nat.lt_or_ge j i with g | g
                · obtain ⟨u, h1, h2⟩ := HVV.out.2.1 j g
                  exact ⟨u, by rw [List.getElem?_append_left (by omega)]; exact h1, (h2.kept (KO.below HWX.out)).kept hko⟩
                · obtain rfl : j = i := by omega
                  exact ⟨uF, by rw [List.getElem?_append_right (by omega), hvl, Nat.sub_self]; rfl, by rw [← HN.out]; exact HBN.out.kept hko⟩
              · rcases Nat.lt_or_ge j i with g | g
                · exact HVV.out.2.2 j g
                · obtain rfl : j = i := by omega
                  rw [HSH.out]; rfl
            clear ho2 hb2 hg2
            go_wp2_with fail
            go_roundw
            case rel => exact ⟨i + 1, by omega, by go_num, HE⟩
            case measure => simp [intOf]; omega
      · have hlt2 : ¬ (i : Int) < (m : Int) := by omega
        obtain rfl : i = m := by omega
        obtain ⟨vals, hvo, hvb, hvs, hbw⟩ := hI.out
        have hbww := HB0.out.trans (hbw.mono HB0.out.size)
        have z1 := (hbww.cell (p := ⟨go, i, none⟩) (World.block_lt_of_cell? _ _ (HH.out.ov i (by omega)))).trans (HH.out.ov i (by omega))
        have hgo : go < wr.heap.size := World.block_lt_of_cell? _ _ z1
        obtain ⟨di, hdi⟩ : ∃ di, di = ds.getD i 0 := ⟨_, rfl⟩
        rw [← hdi] at z1
        have HDI := hid hdi
        have e1 : IntKind.i64.wrap ((m1 : Int) - 1) = (i : Int) := by have := HM1.out; rw [IntKind.wrap_i64]; omega
        have e2 : (m1 : Int) - 1 = (i : Int) := by have := HM1.out; omega
        have e3 : (i : Int) < (m1 : Int) := by have := HM1.out; omega
        have e4 : IntKind.i64.wrap (i : Int) = (i : Int) := by rw [IntKind.wrap_i64]; omega
        have HBW := hid hbw
        have HVV := hid (⟨hvo, hvb, hvs⟩ : wr.ownsRow W0.heap.size 121 1 u10 i vals ∧ (∀ j, j < i → ∃ u, vals[j]? = some u ∧ BxA (2 ^ (K - j - 1)) (onat os j) w wr u) ∧ (∀ j, j < i → shz5 q n (rat roots j) ((2 ^ (K - j - 1) : Nat) : Int) (onat os j).ps (onat os j).rows (onat os j).nodes (mdz pl (2 ^ (K - j - 1))) 2 = true))
        have HBA : Hid (Below wr.heap.size wr (wr.alloc (.cells #[.pointer (some ⟨di, 0, none⟩)] 23))) := (Below.refl _ _).alloc (Nat.le_refl _) _
        have HOA : Hid ((wr.alloc (.cells #[.pointer (some ⟨di, 0, none⟩)] 23)).cell? ⟨wr.heap.size, 0, none⟩ = some (.pointer (some ⟨di, 0, none⟩))) := box_at _ _ _ _ rfl
        clear hI hvo hvb hvs hbw hbww hdi
        go_wp2_with fail
        have hbA1 := HBA.out
        have hoA1 := HOA.out
        generalize wr.alloc (.cells #[.pointer (some ⟨di, 0, none⟩)] 23) = A1 at *
        have HBX : Hid (Below W0.heap.size W0 A1) := HBW.out.trans (HBA.out.mono HBW.out.size)
        have HBY : Hid (Below w.heap.size w A1) := HB0.out.trans (HBX.out.mono HB0.out.size)
        have HSD : Hid (∀ W, Below A1.heap.size A1 W → Below A1.heap.size A1 W ∧ W.cell? ⟨wr.heap.size, 0, none⟩ = some (.pointer (some ⟨di, 0, none⟩)) ∧ W.cell? ⟨w.heap.size, 1, none⟩ = some (.slice a2 last.length c2)) := fun W hb =>
          ⟨hb, (hb.cell (p := ⟨wr.heap.size, 0, none⟩) (heap_lt HOA.out)).trans HOA.out, (HFF.out W (HBX.out.trans (hb.mono HBX.out.size))).2⟩
        have HDO : Hid (DO A1 q b di (2 ^ (K - i)) (sqi q r i) (sqi q t i)) := by
          have := (HH.out.dm.dom i (Nat.le_refl _)).step HBY.out
          rwa [← HDI.out] at this
        have HF : Hid (∀ W, Below A1.heap.size A1 W → Calls Tryz.prog 59 #[.pointer (some ⟨di, 0, none⟩)] W fun e w' => e = .returned (.pointer (some ⟨b, 0, none⟩)) ∧ w' = W) := fun W hb => dfield_any di b _ _ _ W (HDO.out.step hb).da
        obtain ⟨tl, htl⟩ : ∃ tl, Hid (tl = Pol.trim q last) := ⟨_, rfl⟩
        have HT : Hid (∀ W, Below A1.heap.size A1 W → Calls Tryz.prog 113 #[.pointer (some ⟨b, 0, none⟩), .slice a2 last.length c2] W fun e w' => e = .returned (.slice (some ⟨W.heap.size, 0, none⟩) tl.length tl.length) ∧ (∀ j, j < tl.length → w'.cell? ⟨W.heap.size, 0 + j, none⟩ = some (.int .i64 (zat tl j))) ∧ W.heap.size < w'.heap.size ∧ Below W.heap.size W w') := fun W hb => by
          have D := HDO.out.step hb
          have hbb := HBY.out.trans (hb.mono HBY.out.size)
          refine (trim_any q b c2 (· < w.heap.size) a2 last W D.h3 D.hm D.hp (by have := HH.out.fb.l1; omega) HH.out.fb.l2 (HH.out.fd.l.row.below hbb) (fun k hk => Nat.lt_of_lt_of_le hk hbb.size)).mono ?_
          rintro e w' ⟨rfl, h1, h2, h3⟩
          rw [htl.out]
          exact ⟨rfl, fun j hj => h1.cells j hj, by omega, h2⟩
        have HFIN : Hid (∀ (WZ : World) (Bl g : Nat) (v2 : Value) (w2 : World), Below A1.heap.size A1 WZ → A1.heap.size ≤ Bl → A1.heap.size ≤ g → WZ.cell? ⟨Bl, 0, none⟩ = some (.slice (some ⟨g, 0, none⟩) tl.length tl.length) → (∀ j, j < tl.length → WZ.cell? ⟨g, 0 + j, none⟩ = some (.int .i64 (zat tl j))) → WZ.ownsRow W0.heap.size 121 1 u10 i vals → w2.ownsRow W0.heap.size 121 1 v2 (i + 1) (vals ++ [.func (.func 114) #[] #[.pointer (some ⟨wr.heap.size, 0, none⟩), .pointer (some ⟨Bl, 0, none⟩)]]) → Below W0.heap.size WZ w2 → WZ.grownBy w2 u10.ownBlock → ShW q K i r t os last pl w2 v2 ∧ Below w.heap.size w w2) := fun WZ Bl g v2 w2 hbZ hBl hg hcB hcg hoZ ho2 hb2 hg2 => by
          have hbwZ := HBY.out.trans (hbZ.mono HBY.out.size)
          have hbw2 : Below w.heap.size w w2 := hbwZ.trans (hb2.mono HB0.out.size)
          have hko := ko_grown hoZ (by decide) (by decide) (by decide) hg2
          have hkeep : ∀ x, wr.heap.size ≤ x → x < WZ.heap.size → w2.heap[x]? = WZ.heap[x]? := fun x hx1 hx2 => hg2.block x hx2 (fun e => by
            obtain ⟨cs, h1⟩ := owns_kind HVV.out.1 e.symm
            have := (Array.getElem?_eq_some_iff.1 h1).1
            omega)
          have hvl : vals.length = i := by have := hoZ.1; omega
          have hAA : wr.heap.size < A1.heap.size := heap_lt HOA.out
          refine ⟨⟨_, ho2.mono (Nat.zero_le _), fun j hj => ?_⟩, hbw2⟩
          rcases Nat.lt_or_ge j i with gj | gj
          · obtain ⟨u, h1, h2⟩ := HVV.out.2.1 j gj
            have hsh := HVV.out.2.2 j gj
            rw [shz5_and, Bool.and_eq_true, Bool.and_eq_true, decide_eq_true_eq, evc_iff] at hsh
            obtain ⟨⟨s1, s2⟩, s3⟩ := hsh
            refine ⟨u, by rw [List.getElem?_append_left (by omega)]; exact h1, ?_⟩
            have hx := ((h2.kept (KO.below HBA.out)).kept (KO.below hbZ)).kept hko
            have hrl : (onat os j).rows.length = (onat os j).ps.length := by
              by_cases hc : 1 ≤ (((2 ^ (K - j - 1) : Nat)) : Int) ∧ (((2 ^ (K - j - 1) : Nat)) : Int) ≤ 65536 ∧ (onat os j).rows.length = (onat os j).ps.length ∧ (rat roots j).length = 4 ∧ AscN (((2 ^ (K - j - 1) : Nat)) : Int) (onat os j).ps
              · exact hc.2.2.1
              · rw [chkf_no hc] at s3
                cases s3
            have hps := (HH.out.fb.o2 j (by rw [HOL.out]; exact gj)).1
            have hkn := hx.kn hbw2 pl (Nat.two_pow_pos _) (Nat.le_trans (Nat.pow_le_pow_right (by omega) (show K - j - 1 ≤ 16 by omega)) (by decide)) s1 (by omega) hrl (fun k hk => by have := s2 k hk; simp at this; omega)
            have e1 : Pk K i pl j = fun place => place < 2 * 2 ^ (K - j - 1) ∧ ((place % 2 ^ (K - j - 1) : Nat) : Int) ∈ mdz pl (2 ^ (K - j - 1)) := by funext place; simp only [Pk, if_pos gj]
            have e2 : fk q K i r t os last j = fun place => zat (rw5 (onat os j) (place % 2 ^ (K - j - 1))) (place / 2 ^ (K - j - 1)) := by funext place; simp only [fk, if_pos gj]
            rw [e1, e2]
            exact hkn
          · obtain rfl : j = i := by omega
            refine ⟨_, by rw [List.getElem?_append_right (by omega), hvl, Nat.sub_self]; rfl, ?_⟩
            refine ⟨_, wr.heap.size, Bl, rfl, enters_of Tryz.func114 (by kernel_rfl) (by kernel_rfl), fun W' place hb hp => ?_⟩
            have hcell : ∀ (x o : Nat) (v : Value), wr.heap.size ≤ x → WZ.cell? ⟨x, o, none⟩ = some v → W'.cell? ⟨x, o, none⟩ = some v := fun x o v hx hv => by
              have hlt := World.block_lt_of_cell? _ _ hv
              have h1 : w2.cell? ⟨x, o, none⟩ = some v := (World.cell?_of_block (w := WZ) (a := ⟨x, o, none⟩) (hkeep x hx hlt)).trans hv
              exact (hb.cell (p := ⟨x, o, none⟩) (World.block_lt_of_cell? _ _ h1)).trans h1
            have hbW := hbw2.trans (hb.mono hbw2.size)
            have hD := (HH.out.dm.dom j (Nat.le_refl _)).step hbW
            rw [← HDI.out] at hD
            have hp2 : place < 2 ^ (K - j) := by have := hp; simp only [Pk, if_neg (Nat.lt_irrefl j)] at this; exact this
            have hfl : Fits tl := fun x hx => by
              rw [htl.out] at hx ⊢
              have h1 := (Pol.trim_can (show 0 < q by have := hD.h3; omega) last).elem x hx
              have := hD.hm
              rw [zat_cf]
              omega
            have hln : tl.length ≤ 281474976710656 := by
              rw [htl.out]
              have h1 := Pol.trim_le q last
              have h2 := HH.out.fb.l1
              omega
            have := known2_any wr.heap.size Bl q b di (K - j) tl.length place (sqi q r j) (sqi q t j) (some ⟨g, 0, none⟩) tl W' (hcell _ _ _ (Nat.le_refl _) (HSD.out _ hbZ).2.1) (hcell _ _ _ (by omega) hcB) hD (by omega) hln hfl (fun k hk => by
              have hk1 := hcell g (0 + k) _ (by omega) (hcg k hk)
              exact ⟨g, 0, rfl, World.block_lt_of_cell? _ _ hk1, hk1⟩) hp2
            have e2 : fk q K j r t os last j place = evz q tl (Dom.pt q (sqi q t j) (sqi q r j) place) := by
              simp only [fk, if_neg (Nat.lt_irrefl j)]
              rw [htl.out, evz_trim (show 0 < q by have := hD.h3; omega)]
            rw [e2]
            exact this
        have HOKA : Hid (OkA q n K i roots os pl) := ⟨HOL.out, HVV.out.2.2⟩
        have hd0 : Below A1.heap.size A1 A1.drew := (Below.refl _ _).drew
        refine wp_region_held_drew (S := fun W => Below A1.heap.size A1 W ∧ W.cell? ⟨wr.heap.size, 0, none⟩ = some (.pointer (some ⟨di, 0, none⟩)) ∧ W.cell? ⟨w.heap.size, 1, none⟩ = some (.slice a2 last.length c2)) (by kernel_rfl) (HSD.out _ hd0) (fun hHeld => ?_)
        refine wpAnyH_takeL (i := 0) (v := .pointer (some ⟨di, 0, none⟩)) rfl (by kernel_rfl) (by kernel_rfl) (by kernel_rfl) (fun _ _ _ h => h) (by rfl) (fun W hC => by (obtain ⟨_, k0, k1⟩ := hC); go_simp) hHeld ?_
        simp only [Act.put, List.setIfInBounds_toArray, List.set_cons_zero, List.set_cons_succ]
        refine wpAnyH_takeL (i := 2) (v := .pointer (some ⟨w.heap.size, 1, none⟩)) rfl (by kernel_rfl) (by kernel_rfl) (by kernel_rfl) (fun _ _ _ h => h) (by rfl) (fun W hC => by (obtain ⟨_, k0, k1⟩ := hC); go_simp) hHeld ?_
        simp only [Act.put, List.setIfInBounds_toArray, List.set_cons_zero, List.set_cons_succ]
        refine wpAnyH_takeL (i := 3) (v := .slice a2 last.length c2) rfl (by kernel_rfl) (by kernel_rfl) (by kernel_rfl) (fun _ _ _ h => h) (by rfl) (fun W hC => by (obtain ⟨_, k0, k1⟩ := hC); go_simp) hHeld ?_
        simp only [Act.put, List.setIfInBounds_toArray, List.set_cons_zero, List.set_cons_succ]
        refine wpAnyH_ready (rs := [1, 5]) (by kernel_rfl) (by simp) ?_
        refine AllReadyH.consL rfl (fun KK hK => ?_) (AllReadyH.consL rfl (fun KK hK => ?_) AllReadyH.nil)
        · go_simp
          refine (HF.out _ hd0).mono ?_
          rintro e w2 ⟨rfl, rfl⟩
          go_wp2_with fail
          refine hK.out _ _ hHeld (fun _ => ?_)
          clear hK KK
          refine wpAnyH_ready (rs := [4, 5]) (by kernel_rfl) (by simp) ?_
          refine AllReadyH.consL rfl (fun KK hK => ?_) (AllReadyH.consL rfl (fun KK hK => ?_) AllReadyH.nil)
          · go_simp
            refine (HT.out _ hd0).mono ?_
            rintro e w3 ⟨rfl, hc3, hs3, hb3⟩
            have hB3 : Below A1.heap.size A1 w3 := hd0.trans (hb3.mono hd0.size)
            go_wp2_with fail
            refine hK.out _ _ (HSD.out _ hB3) (fun _ => ?_)
            clear hK KK
            refine wpAnyH_ready (rs := [5]) (by kernel_rfl) (by simp) ?_
            refine AllReadyH.consL rfl (fun KK hK => ?_) AllReadyH.nil
            go_simp
            refine hK.out _ _ (HSD.out _ (hB3.alloc hB3.size _)) (fun _ => ?_)
            clear hK KK
            refine wpAnyH_ready (rs := [6]) (by kernel_rfl) (by simp) ?_
            refine AllReadyH.consL rfl (fun KK hK => ?_) AllReadyH.nil
            go_simp
            have HBZ : Hid (Below A1.heap.size A1 (w3.alloc (.cells #[.slice (some ⟨A1.heap.size, 0, none⟩) tl.length tl.length] 22))) := hB3.alloc hB3.size _
            refine hK.out _ _ (HSD.out _ HBZ.out) (fun _ => ?_)
            clear hK KK
            refine wpAnyH_done (by kernel_rfl) ?_ _
            have HCB : Hid ((w3.alloc (.cells #[.slice (some ⟨A1.heap.size, 0, none⟩) tl.length tl.length] 22)).cell? ⟨w3.heap.size, 0, none⟩ = some (.slice (some ⟨A1.heap.size, 0, none⟩) tl.length tl.length)) := box_at _ _ _ _ rfl
            have HCG : Hid (∀ j, j < tl.length → (w3.alloc (.cells #[.slice (some ⟨A1.heap.size, 0, none⟩) tl.length tl.length] 22)).cell? ⟨A1.heap.size, 0 + j, none⟩ = some (.int .i64 (zat tl j))) := fun j hj => box_old _ _ (hc3 j hj)
            have HBG : Hid (A1.heap.size ≤ w3.heap.size ∧ A1.heap.size ≤ A1.heap.size) := by unfold Hid; have := hB3.size; simp <;> omega
            generalize (w3.alloc (.cells #[.slice (some ⟨A1.heap.size, 0, none⟩) tl.length tl.length] 22)) = WZ at *
            have HOX : Hid (WZ.ownsRow W0.heap.size 121 1 u10 i vals) := HVV.out.1.kept (gb_of_below (HBA.out.trans (HBZ.out.mono HBA.out.size))) (by cases Value.ownBlock u10 with
              | none => exact .inl rfl
              | some k => exact .inr (by simp))
            have HZX : Hid (W0.heap.size ≤ WZ.heap.size) := (HBX.out.trans (HBZ.out.mono HBX.out.size)).size
            go_wp2_with (at_builtin; refine wpList_fun1 WZ rfl _ _ rfl _ _ i W0.heap.size vals HOX.out rfl rfl rfl (by omega) HZX.out ?_)
            intro v2 w2 ho2 hb2 hg2
            have HE := hid (HFIN.out WZ _ _ v2 w2 HBZ.out HBG.out.1 HBG.out.2 HCB.out HCG.out HOX.out ho2 hb2 hg2)
            clear ho2 hb2 hg2
            go_wp2_with fail
            go_ret2
            exact ⟨fun _ => ⟨v2, rfl, HE.out.1⟩, fun h => absurd HOKA.out h, HE.out.2⟩
          · go_simp
            have hbX : Below A1.heap.size A1 (A1.alloc (.cells #[.slice none 0 0] 22)).drew := ((Below.refl _ _).alloc (Nat.le_refl _) _).drew
            have HXB : Hid ((A1.alloc (.cells #[.slice none 0 0] 22)).drew.heap[A1.heap.size]? = some (.cells #[.slice none 0 0] 22 (0, 0))) := heap_alloc_new A1 _
            have HXS : Hid (A1.heap.size < (A1.alloc (.cells #[.slice none 0 0] 22)).drew.heap.size) := (Array.getElem?_eq_some_iff.1 HXB.out).1
            generalize (A1.alloc (.cells #[.slice none 0 0] 22)).drew = AX at *
            refine hK.out _ _ (HSD.out _ hbX) (fun _ => ?_)
            clear hK KK
            refine wpAnyH_ready (rs := [4]) (by kernel_rfl) (by simp) ?_
            refine AllReadyH.consL rfl (fun KK hK => ?_) AllReadyH.nil
            go_simp
            refine (HT.out _ hbX).mono ?_
            rintro e w3 ⟨rfl, hc3, hs3, hb3⟩
            have hB3 : Below A1.heap.size A1 w3 := hbX.trans (hb3.mono hbX.size)
            have hk3 : w3.heap[A1.heap.size]? = some (.cells #[.slice none 0 0] 22 (0, 0)) := (hb3.block _ (by have := HXS.out; omega)).trans HXB.out
            have hri : w3.rowIs A1.heap.size 22 1 (fun _ => .slice none 0 0) := ⟨_, hk3, rfl, fun j hj => by
              have h0 : j = 0 := by omega
              subst h0
              rfl⟩
            have hcc := hri.cell (show 0 < 1 by omega)
            have hfz := hri.frozen 0
            have HRI := hid hri
            have HXS2 := HXS
            clear hri hk3
            go_wp2_with fail
            refine hK.out _ _ (HSD.out _ hB3) (fun _ => ?_)
            clear hK KK
            refine wpAnyH_ready (rs := [6]) (by kernel_rfl) (by simp) ?_
            refine AllReadyH.consL rfl (fun KK hK => ?_) AllReadyH.nil
            go_simp
            have HBZ : Hid (Below A1.heap.size A1 (w3.setCell ⟨A1.heap.size, 0, none⟩ (.slice (some ⟨AX.heap.size, 0, none⟩) tl.length tl.length))) := hB3.setCell (p := ⟨A1.heap.size, 0, none⟩) (Nat.le_refl _) _
            refine hK.out _ _ (HSD.out _ HBZ.out) (fun _ => ?_)
            clear hK KK
            refine wpAnyH_done (by kernel_rfl) ?_ _
            have HCB : Hid ((w3.setCell ⟨A1.heap.size, 0, none⟩ (.slice (some ⟨AX.heap.size, 0, none⟩) tl.length tl.length)).cell? ⟨A1.heap.size, 0, none⟩ = some (.slice (some ⟨AX.heap.size, 0, none⟩) tl.length tl.length)) := (HRI.out.set 0 (.slice (some ⟨AX.heap.size, 0, none⟩) tl.length tl.length)).cell (show 0 < 1 by omega)
            have HCG : Hid (∀ j, j < tl.length → (w3.setCell ⟨A1.heap.size, 0, none⟩ (.slice (some ⟨AX.heap.size, 0, none⟩) tl.length tl.length)).cell? ⟨AX.heap.size, 0 + j, none⟩ = some (.int .i64 (zat tl j))) := fun j hj => (World.cell?_setCell_other _ _ _ _ (fun e => by have h1 := congrArg Addr.block e; simp at h1; have := HXS2.out; omega)).trans (hc3 j hj)
            have HBG : Hid (A1.heap.size ≤ A1.heap.size ∧ A1.heap.size ≤ AX.heap.size) := ⟨Nat.le_refl _, by have := HXS.out; omega⟩
            generalize (w3.setCell ⟨A1.heap.size, 0, none⟩ (.slice (some ⟨AX.heap.size, 0, none⟩) tl.length tl.length)) = WZ at *
            have HOX : Hid (WZ.ownsRow W0.heap.size 121 1 u10 i vals) := HVV.out.1.kept (gb_of_below (HBA.out.trans (HBZ.out.mono HBA.out.size))) (by cases Value.ownBlock u10 with
              | none => exact .inl rfl
              | some k => exact .inr (by simp))
            have HZX : Hid (W0.heap.size ≤ WZ.heap.size) := (HBX.out.trans (HBZ.out.mono HBX.out.size)).size
            go_wp2_with (at_builtin; refine wpList_fun1 WZ rfl _ _ rfl _ _ i W0.heap.size vals HOX.out rfl rfl rfl (by omega) HZX.out ?_)
            intro v2 w2 ho2 hb2 hg2
            have HE := hid (HFIN.out WZ _ _ v2 w2 HBZ.out HBG.out.1 HBG.out.2 HCB.out HCG.out HOX.out ho2 hb2 hg2)
            clear ho2 hb2 hg2
            go_wp2_with fail
            go_ret2
            exact ⟨fun _ => ⟨v2, rfl, HE.out.1⟩, fun h => absurd HOKA.out h, HE.out.2⟩
        · go_simp
          have hbX : Below A1.heap.size A1 (A1.alloc (.cells #[.slice none 0 0] 22)).drew := ((Below.refl _ _).alloc (Nat.le_refl _) _).drew
          have HXB : Hid ((A1.alloc (.cells #[.slice none 0 0] 22)).drew.heap[A1.heap.size]? = some (.cells #[.slice none 0 0] 22 (0, 0))) := heap_alloc_new A1 _
          have HXS : Hid (A1.heap.size < (A1.alloc (.cells #[.slice none 0 0] 22)).drew.heap.size) := (Array.getElem?_eq_some_iff.1 HXB.out).1
          generalize (A1.alloc (.cells #[.slice none 0 0] 22)).drew = AX at *
          refine hK.out _ _ (HSD.out _ hbX) (fun _ => ?_)
          clear hK KK
          refine wpAnyH_ready (rs := [1]) (by kernel_rfl) (by simp) ?_
          refine AllReadyH.consL rfl (fun KK hK => ?_) AllReadyH.nil
          go_simp
          refine (HF.out _ hbX).mono ?_
          rintro e w2 ⟨rfl, rfl⟩
          go_wp2_with fail
          refine hK.out _ _ (HSD.out _ hbX) (fun _ => ?_)
          clear hK KK
          refine wpAnyH_ready (rs := [4]) (by kernel_rfl) (by simp) ?_
          refine AllReadyH.consL rfl (fun KK hK => ?_) AllReadyH.nil
          go_simp
          refine (HT.out _ hbX).mono ?_
          rintro e w3 ⟨rfl, hc3, hs3, hb3⟩
          have hB3 : Below A1.heap.size A1 w3 := hbX.trans (hb3.mono hbX.size)
          have hk3 : w3.heap[A1.heap.size]? = some (.cells #[.slice none 0 0] 22 (0, 0)) := (hb3.block _ (by have := HXS.out; omega)).trans HXB.out
          have hri : w3.rowIs A1.heap.size 22 1 (fun _ => .slice none 0 0) := ⟨_, hk3, rfl, fun j hj => by
            have h0 : j = 0 := by omega
            subst h0
            rfl⟩
          have hcc := hri.cell (show 0 < 1 by omega)
          have hfz := hri.frozen 0
          have HRI := hid hri
          have HXS2 := HXS
          clear hri hk3
          go_wp2_with fail
          refine hK.out _ _ (HSD.out _ hB3) (fun _ => ?_)
          clear hK KK
          refine wpAnyH_ready (rs := [6]) (by kernel_rfl) (by simp) ?_
          refine AllReadyH.consL rfl (fun KK hK => ?_) AllReadyH.nil
          go_simp
          have HBZ : Hid (Below A1.heap.size A1 (w3.setCell ⟨A1.heap.size, 0, none⟩ (.slice (some ⟨w2.heap.size, 0, none⟩) tl.length tl.length))) := hB3.setCell (p := ⟨A1.heap.size, 0, none⟩) (Nat.le_refl _) _
          refine hK.out _ _ (HSD.out _ HBZ.out) (fun _ => ?_)
          clear hK KK
          refine wpAnyH_done (by kernel_rfl) ?_ _
          have HCB : Hid ((w3.setCell ⟨A1.heap.size, 0, none⟩ (.slice (some ⟨w2.heap.size, 0, none⟩) tl.length tl.length)).cell? ⟨A1.heap.size, 0, none⟩ = some (.slice (some ⟨w2.heap.size, 0, none⟩) tl.length tl.length)) := (HRI.out.set 0 (.slice (some ⟨w2.heap.size, 0, none⟩) tl.length tl.length)).cell (show 0 < 1 by omega)
          have HCG : Hid (∀ j, j < tl.length → (w3.setCell ⟨A1.heap.size, 0, none⟩ (.slice (some ⟨w2.heap.size, 0, none⟩) tl.length tl.length)).cell? ⟨w2.heap.size, 0 + j, none⟩ = some (.int .i64 (zat tl j))) := fun j hj => (World.cell?_setCell_other _ _ _ _ (fun e => by have h1 := congrArg Addr.block e; simp at h1; have := HXS2.out; omega)).trans (hc3 j hj)
          have HBG : Hid (A1.heap.size ≤ A1.heap.size ∧ A1.heap.size ≤ w2.heap.size) := ⟨Nat.le_refl _, by have := HXS.out; omega⟩
          generalize (w3.setCell ⟨A1.heap.size, 0, none⟩ (.slice (some ⟨w2.heap.size, 0, none⟩) tl.length tl.length)) = WZ at *
          have HOX : Hid (WZ.ownsRow W0.heap.size 121 1 u10 i vals) := HVV.out.1.kept (gb_of_below (HBA.out.trans (HBZ.out.mono HBA.out.size))) (by cases Value.ownBlock u10 with
            | none => exact .inl rfl
            | some k => exact .inr (by simp))
          have HZX : Hid (W0.heap.size ≤ WZ.heap.size) := (HBX.out.trans (HBZ.out.mono HBX.out.size)).size
          go_wp2_with (at_builtin; refine wpList_fun1 WZ rfl _ _ rfl _ _ i W0.heap.size vals HOX.out rfl rfl rfl (by omega) HZX.out ?_)
          intro v2 w2 ho2 hb2 hg2
          have HE := hid (HFIN.out WZ _ _ v2 w2 HBZ.out HBG.out.1 HBG.out.2 HCB.out HCG.out HOX.out ho2 hb2 hg2)
          clear ho2 hb2 hg2
          go_wp2_with fail
          go_ret2
          exact ⟨fun _ => ⟨v2, rfl, HE.out.1⟩, fun h => absurd HOKA.out h, HE.out.2⟩
  · have HNE : Hid (OkA q n K m roots os pl → False) := fun h => hol h.1
    have HB0 := hid hb0
    clear hF H hb0 hWs HH
    generalize os.length = ol at *
    generalize pl.length = nl at *
    go_enter Tryz.func60, Tryz.ntmps60
    go_wp2_with fail
    rw [← hW0]
    clear hW0
    go_wp2_with fail
    go_ret2
    exact ⟨fun h => (HNE.out h).elim, fun _ => rfl, HB0.out⟩

end Go.Proofs.YtfppkjpgihnibaaGreatDoor

namespace Go.Proofs.YtfppkjpgihnibaaGreatDoor
open Go.RowKit

theorem pow_down {K i : Nat} (h : i + 2 ≤ K) : 2 ^ (K - i - 1) = 2 * 2 ^ (K - i - 2) := by
  have : K - i - 1 = (K - i - 2) + 1 := by omega
  rw [this, Nat.pow_succ]; omega
theorem fk_lo {q K m : Nat} {r s : Int} {os : List OnZ} {last : List Int} {i x : Nat} (hi : i < m) (hx : x < 2 ^ (K - i - 1)) : fk q K m r s os last i x = zat (rw5 (onat os i) x) 0 := by
  unfold fk
  rw [if_pos hi, Nat.mod_eq_of_lt hx, Nat.div_eq_of_lt hx]
theorem fk_hi {q K m : Nat} {r s : Int} {os : List OnZ} {last : List Int} {i x : Nat} (hi : i < m) (hx : x < 2 ^ (K - i - 1)) : fk q K m r s os last i (x + 2 ^ (K - i - 1)) = zat (rw5 (onat os i) x) 1 := by
  have hp := Nat.two_pow_pos (K - i - 1)
  unfold fk
  rw [if_pos hi, Nat.add_mod_right, Nat.mod_eq_of_lt hx, Nat.add_div_right _ hp, Nat.div_eq_of_lt hx]
theorem evz_mod {q : Nat} (zs : List Int) (x : Int) : evz q zs x % (q : Int) = evz q zs x := Int.emod_emod_of_dvd _ (Int.dvd_refl _)

/-- one round at one place -/
theorem round_is {q K m : Nat} {r s : Int} {os : List OnZ} {last drawn : List Int} (hmK : m + 1 ≤ K) {i : Nat} (hi : i < m) {z : Int} (hz : 0 ≤ z) :
    (Fol.pairz q (Dom.pt q (sqi q s i) (sqi q r i) (z % ((2 ^ (K - i - 1) : Nat) : Int)).toNat) (fk q K m r s os last i (z % ((2 ^ (K - i - 1) : Nat) : Int)).toNat) (fk q K m r s os last i ((z % ((2 ^ (K - i - 1) : Nat) : Int)).toNat + 2 ^ (K - i - 1))) (zat drawn i) = fk q K m r s os last (i + 1) (z % ((2 ^ (K - i - 1) : Nat) : Int)).toNat % (q : Int)) ↔
      pxz q K r s os drawn z.toNat i = pyz q K r s os last m z.toNat i := by
  have hp := Nat.two_pow_pos (K - i - 1)
  obtain ⟨pl, rfl⟩ := Int.eq_ofNat_of_zero_le hz
  have e0 : ((pl : Int) % ((2 ^ (K - i - 1) : Nat) : Int)).toNat = pl % 2 ^ (K - i - 1) := by rw [← Int.natCast_emod, Int.toNat_natCast]
  rw [e0, Int.toNat_natCast, fk_lo hi (Nat.mod_lt _ hp), fk_hi hi (Nat.mod_lt _ hp)]
  unfold pxz pyz
  by_cases h1 : i + 1 < m
  · rw [if_pos h1]
    have e1 : fk q K m r s os last (i + 1) (pl % 2 ^ (K - i - 1)) = zat (rw5 (onat os (i + 1)) (pl % 2 ^ (K - i - 2))) (pl % 2 ^ (K - i - 1) / 2 ^ (K - i - 2)) := by
      unfold fk
      rw [if_pos h1, show K - (i + 1) - 1 = K - i - 2 by omega]
      congr 2
      have := pow_down (show i + 2 ≤ K by omega)
      rw [this]
      exact Nat.mod_mod_of_dvd _ (Nat.dvd_mul_left _ _)
    rw [e1]
  · rw [if_neg h1]
    have h2 : i + 1 = m := by omega
    have e1 : fk q K m r s os last (i + 1) (pl % 2 ^ (K - i - 1)) = evz q last (Dom.pt q (sqi q s (i + 1)) (sqi q r (i + 1)) (pl % 2 ^ (K - i - 1))) := by
      unfold fk
      rw [if_neg h1, h2]
    rw [e1, evz_mod]
theorem rounds_iff {q K m : Nat} {r s : Int} {os : List OnZ} {last drawn l : List Int} (hd : drawn.length = m) (hmK : m + 1 ≤ K) (hl : ∀ j, j < l.length → 0 ≤ zat l j) :
    (∀ i, i < m → ftb q (2 ^ (K - i - 1)) (sqi q r i) (sqi q s i) (zat drawn i) (fk q K m r s os last i) (fk q K m r s os last (i + 1)) l = true) ↔ ∀ j, j < l.length → pthz q K r s os last drawn (zat l j).toNat = true := by
  constructor
  · intro h j hj
    unfold pthz
    rw [decide_eq_true_eq, hd]
    intro i hi
    exact (round_is hmK hi (hl j hj)).1 (ftb_iff.1 (h i hi) j hj)
  · intro h i hi
    rw [ftb_iff]
    intro j hj
    have := h j hj
    unfold pthz at this
    rw [decide_eq_true_eq, hd] at this
    exact (round_is hmK hi (hl j hj)).2 (this i hi)

/-- where the round's words are asked for -/
theorem asked_for {q K m : Nat} {r s : Int} {os : List OnZ} {last l : List Int} (h3 : 3 ≤ q) (h4 : q ≤ 2147483647) (hfr : ∀ i, i < m → FitsR (onat os i).rows) (hmK : m + 1 ≤ K) (hl : ∀ j, j < l.length → 0 ≤ zat l j) {i : Nat} (hi : i < m) (x : Nat) (hx : (x : Int) ∈ mdz l (2 ^ (K - i - 1))) :
    Pk K m l i x ∧ Pk K m l i (x + 2 ^ (K - i - 1)) ∧ Pk K m l (i + 1) x ∧ (-9223372036854775808 ≤ fk q K m r s os last i x ∧ fk q K m r s os last i x ≤ 9223372036854775807) ∧ (-9223372036854775808 ≤ fk q K m r s os last i (x + 2 ^ (K - i - 1)) ∧ fk q K m r s os last i (x + 2 ^ (K - i - 1)) ≤ 9223372036854775807) ∧ (-9223372036854775808 ≤ fk q K m r s os last (i + 1) x ∧ fk q K m r s os last (i + 1) x ≤ 9223372036854775807) := by
  have hp := Nat.two_pow_pos (K - i - 1)
  have hb := mdz_in hp _ hx
  have hxl : x < 2 ^ (K - i - 1) := by omega
  have hfk : ∀ j y, -9223372036854775808 ≤ fk q K m r s os last j y ∧ fk q K m r s os last j y ≤ 9223372036854775807 := fun j y => by
    unfold fk
    split
    · rename_i hj
      unfold rw5
      generalize fx (onat os j).ps ((y % 2 ^ (K - j - 1) : Nat) : Int) = ix
      by_cases hix : ix < (onat os j).rows.length
      · exact (hfr j hj ix hix).1.all _
      · have : rat (onat os j).rows ix = [] := by simp [rat, List.getElem?_eq_none (show (onat os j).rows.length ≤ ix by omega)]
        rw [this]
        simp [zat]
    · have := evz_bounds q last (Dom.pt q (sqi q s m) (sqi q r m) y) h3
      omega
  refine ⟨?_, ?_, ?_, hfk _ _, hfk _ _, hfk _ _⟩
  · unfold Pk
    rw [if_pos hi, Nat.mod_eq_of_lt hxl]
    exact ⟨by omega, hx⟩
  · unfold Pk
    rw [if_pos hi, Nat.add_mod_right, Nat.mod_eq_of_lt hxl]
    exact ⟨by omega, hx⟩
  · unfold Pk
    by_cases h1 : i + 1 < m
    · rw [if_pos h1, show K - (i + 1) - 1 = K - i - 2 by omega]
      have hd := pow_down (show i + 2 ≤ K by omega)
      refine ⟨by omega, ?_⟩
      obtain ⟨z, hz, he⟩ := List.mem_map.1 (((onc_is _).2 _).1 hx)
      refine ((onc_is _).2 _).2 (List.mem_map.2 ⟨z, hz, ?_⟩)
      obtain ⟨j, hj, hzj⟩ := mem_zat hz
      obtain ⟨pl, hpl⟩ := Int.eq_ofNat_of_zero_le (show 0 ≤ z by rw [← hzj]; exact hl j hj)
      subst hpl
      have hx2 : x = pl % 2 ^ (K - i - 1) := by
        have h5 : ((pl % 2 ^ (K - i - 1) : Nat) : Int) = (x : Int) := by rw [Int.natCast_emod]; exact he
        omega
      have h6 : pl % 2 ^ (K - i - 1) % 2 ^ (K - i - 2) = pl % 2 ^ (K - i - 2) := Nat.mod_mod_of_dvd _ (by rw [hd]; exact Nat.dvd_mul_left _ _)
      show (pl : Int) % ((2 ^ (K - i - 2) : Nat) : Int) = _
      rw [← Int.natCast_emod, hx2, h6]
    · rw [if_neg h1, show K - m = K - i - 1 by omega]
      exact hxl

end Go.Proofs.YtfppkjpgihnibaaGreatDoor

namespace Go.Proofs.YtfppkjpgihnibaaGreatDoor
open Go.RowKit

/-- what stands in Check while the chain goes on -/
structure CkZ (N0 q n dd b d s bs c K m : Nat) (r t : Int) (a1 a2 a3 : Option Addr) (c1 c2 c3 : Nat) (roots : List (List Int)) (last : List Int) (os : List OnZ) (ds : List Nat) (go gb : Nat) (Dc : List Int) (by' : Nat → Int) (W wr : World) : Prop where
  gr : W.grownBy wr (some c)
  pc : PCh N0 q n wr c Dc
  fb : wr.heap[W.heap.size]? = some (.cells #[.slice a1 m c1, .slice a2 last.length c2, .slice a3 os.length c3] 36 (0, 0))
  fd : FdC W a1 a2 a3 c1 c2 c3 roots last os
  ct : ∃ cs f, W.heap[c]? = some (.cells cs 94 f)
  dm : DmL q b K (m) r t wr ds
  dh : ∀ i, 1 ≤ i → i ≤ m → W.heap.size ≤ ds.getD i 0
  ov : ∀ k, k ≤ m → wr.cell? ⟨go, k, none⟩ = some (.pointer (some ⟨ds.getD k 0, 0, none⟩))
  og : W.heap.size ≤ go
  bg : W.heap.size ≤ gb
  br : ArrI wr gb 3 (m) by'
  lt : c < W.heap.size
  bc : b ≠ c
  dz : ∀ W', Below N0 W W' → DO W' q b d (2 ^ K) r t
  d0 : ds.getD 0 0 = d
  nc : N0 ≤ c
section
variable {N0 q n dd b d s bs c K m : Nat} {r t : Int} {a1 a2 a3 : Option Addr} {c1 c2 c3 : Nat} {roots : List (List Int)} {last : List Int} {os : List OnZ} {ds : List Nat} {go gb : Nat} {Dc Dc' : List Int} {by' : Nat → Int} {W wr wr' : World}
theorem PCh.typ (h : PCh N0 q n wr c Dc) : ∃ cs f, wr.heap[c]? = some (.cells cs 94 f) := by
  obtain ⟨s, b, d, _, _, _, _, _, h1⟩ := h
  exact ⟨_, _, h1⟩
/-- the chain's turn -/
theorem CkZ.turn (h : CkZ N0 q n dd b d s bs c K m r t a1 a2 a3 c1 c2 c3 roots last os ds go gb Dc by' W wr) (g : wr.grownBy wr' (some c)) (p : PCh N0 q n wr' c Dc') : CkZ N0 q n dd b d s bs c K m r t a1 a2 a3 c1 c2 c3 roots last os ds go gb Dc' by' W wr' := by
  have hlt := h.lt
  have hgr := gb_trans h.gr g
  refine ⟨hgr, p, (gb_blk g (Array.getElem?_eq_some_iff.1 h.fb).1 (by omega)).trans h.fb, h.fd, h.ct, ⟨h.dm.len, fun i hi => ?_⟩, h.dh, fun k hk => ?_, h.og, h.bg, h.br.block (gb_blk g h.br.lt (by have := h.bg; omega)), h.lt, h.bc, h.dz, h.d0, h.nc⟩
  · rcases Nat.eq_zero_or_pos i with rfl | hi0
    · rw [h.d0]
      exact h.dz _ (gb_to hgr h.nc (by have := h.nc; omega))
    · exact (h.dm.dom i hi).gb g h.bc (by have := h.dh i hi0 hi; omega)
  · have hov := h.ov k hk
    exact (World.cell?_of_block (w := wr) (a := ⟨go, k, none⟩) (gb_blk g (World.block_lt_of_cell? _ _ hov) (by have := h.og; show go ≠ c; omega))).trans hov
theorem CkZ.fdw (h : CkZ N0 q n dd b d s bs c K m r t a1 a2 a3 c1 c2 c3 roots last os ds go gb Dc by' W wr) : FdL wr a1 a2 a3 c1 c2 c3 roots last os := by
  obtain ⟨cs, f, hc⟩ := h.ct
  exact h.fd wr h.gr.size (fun b cs' t' f' hb hne => gb_blk h.gr (Array.getElem?_eq_some_iff.1 hb).1 (by
    rintro rfl
    rw [hc] at hb
    injection hb with hb
    injection hb with _ h2 _
    exact hne h2.symm))
/-- nothing of it is touched -/
theorem CkZ.step (h : CkZ N0 q n dd b d s bs c K m r t a1 a2 a3 c1 c2 c3 roots last os ds go gb Dc by' W wr) (e : Below wr.heap.size wr wr') : CkZ N0 q n dd b d s bs c K m r t a1 a2 a3 c1 c2 c3 roots last os ds go gb Dc by' W wr' := h.turn (gb_below e) (h.pc.below e)
/-- a number is written down -/
theorem CkZ.put (h : CkZ N0 q n dd b d s bs c K m r t a1 a2 a3 c1 c2 c3 roots last os ds go gb Dc by' W wr) (hgo : go ≠ gb) (hgw : gb ≠ W.heap.size) (hdg : ∀ i, i ≤ m → ds.getD i 0 ≠ gb) (hbg : b ≠ gb) (i : Nat) (x : Int) {by2 : Nat → Int} (hb2 : ArrI (wr.setCell ⟨gb, i, none⟩ (.int .i64 x)) gb 3 (m) by2) : CkZ N0 q n dd b d s bs c K m r t a1 a2 a3 c1 c2 c3 roots last os ds go gb Dc by2 W (wr.setCell ⟨gb, i, none⟩ (.int .i64 x)) := by
  have hoth : ∀ y, y ≠ gb → (wr.setCell ⟨gb, i, none⟩ (.int .i64 x)).heap[y]? = wr.heap[y]? := fun y hy => Below.heap_setCell _ _ _ _ (by show y ≠ gb; exact hy)
  have hlt := h.lt
  have hbg2 := h.bg
  have hnc := h.nc
  refine ⟨gb_far h.gr h.bg _ _, h.pc.blocks (hoth c (by omega)) (fun y hy => hoth y (by omega)), (hoth _ (by omega)).trans h.fb, h.fd, h.ct, ⟨h.dm.len, fun j hj => ?_⟩, h.dh, fun k hk => ?_, h.og, h.bg, hb2, h.lt, h.bc, h.dz, h.d0, h.nc⟩
  · have hD := h.dm.dom j hj
    refine ⟨hD.pr, hD.h3, hD.hm, (World.cell?_of_block (w := wr) (a := ⟨b, 0, none⟩) (hoth b hbg)).trans hD.hp, ?_, hD.hk, hD.hr0, hD.hr1, hD.ord, hD.hs0, hD.hs1, hD.hsd⟩
    have hk := hoth _ (hdg j hj)
    exact ⟨(World.cell?_of_block (w := wr) (a := ⟨ds.getD j 0, 0, none⟩) hk).trans hD.da.f, (World.cell?_of_block (w := wr) (a := ⟨ds.getD j 0, 1, none⟩) hk).trans hD.da.n, (World.cell?_of_block (w := wr) (a := ⟨ds.getD j 0, 2, none⟩) hk).trans hD.da.r, (World.cell?_of_block (w := wr) (a := ⟨ds.getD j 0, 3, none⟩) hk).trans hD.da.s⟩
  · exact (World.cell?_of_block (w := wr) (a := ⟨go, k, none⟩) (hoth go hgo)).trans (h.ov k hk)
end

end Go.Proofs.YtfppkjpgihnibaaGreatDoor

namespace Go.Proofs.YtfppkjpgihnibaaGreatDoor
open Go.RowKit

set_option maxRecDepth 100000 in
set_option maxHeartbeats 8000000 in
/-- Check where the rounds are as many as the Roots -/
theorem check5_any (N0 q n dd b d s bs c K J a : Nat) (r t : Int) (a1 a2 a3 : Option Addr) (c1 c2 c3 : Nat) (roots : List (List Int)) (last : List Int) (os : List OnZ) (D : List Int) (W : World) (hdm : ∀ W', Below N0 W W' → DO W' q b d (2 ^ K) r t) (ok : SpgOk q n dd) (hs : SpgAt W s bs q n dd) (hsN : s < N0) (hbN : bs < N0) (hP : PCh N0 q n W c D) (hD : Dig D) (hB : FdB roots last os) (hF : FdC W a1 a2 a3 c1 c2 c3 roots last os)
    (hK : K ≤ 16) (hJ : J + 1 ≤ K) (ha1 : 1 ≤ a) (ha : a ≤ 64) (hz : fz5 (2 ^ K) ((2 ^ J : Nat) : Int) (a : Int) = 0) (hm : roots.length = J - 2) :
    Calls Tryz.prog 17 #[.pointer (some ⟨s, 0, none⟩), .pointer (some ⟨c, 0, none⟩), .pointer (some ⟨d, 0, none⟩), .int .i64 ((2 ^ J : Nat) : Int), .int .i64 (a : Int), .agg #[.slice a1 roots.length c1, .slice a2 last.length c2, .slice a3 os.length c3]] W fun e w' =>
      (CkP q n K J r t roots last os D a → ∃ av cv, e = .returned (.tuple #[.slice av a cv, .bool true]) ∧ NumL w' av cv (ckA q n K roots last D (J - 2) a)) ∧ (¬ CkP q n K J r t roots last os D a → e = .returned (.tuple #[.slice none 0 0, .bool false])) ∧ PCh N0 q n w' c (pld q n a (ckL q n roots last D (J - 2))) ∧ W.grownBy w' (some c) := by
  have hmx : Tryz.prog.follows .mixedOrders = true := by kernel_rfl
  have hd0 := hdm W (Below.refl _ _)
  have h3 := hd0.h3
  have h4 := hd0.hm
  have hcl := hP.lt
  have hcg := hP.ge
  have hpow : 2 ^ K ≤ 2 ^ 16 := Nat.pow_le_pow_right (by omega) hK
  have hpowJ : 2 ^ J ≤ 2 ^ 16 := Nat.pow_le_pow_right (by omega) (by omega)
  have hposJ := Nat.two_pow_pos J
  have hbc : b ≠ c := by
    rintro rfl
    obtain ⟨s', b', d', _, _, _, _, _, hblk⟩ := hP
    have h1 := hd0.hp
    rw [five0 hblk] at h1
    cases h1
  obtain ⟨m, hmm⟩ : ∃ m, m = J - 2 := ⟨_, rfl⟩
  obtain ⟨kk, hkk⟩ : ∃ kk, kk = 2 ^ J := ⟨_, rfl⟩
  obtain ⟨W0, hW0⟩ : ∃ W0, W0 = W.alloc (.cells #[.slice a1 roots.length c1, .slice a2 last.length c2, .slice a3 os.length c3] 36) := ⟨_, rfl⟩
  have hb0 : Below W.heap.size W W0 := by rw [hW0]; exact (Below.refl _ _).alloc (Nat.le_refl _) _
  have hfo : W0.heap[W.heap.size]? = some (.cells #[.slice a1 roots.length c1, .slice a2 last.length c2, .slice a3 os.length c3] 36 (0, 0)) := by rw [hW0]; exact heap_alloc_new W _
  have HMS : Hid (Calls Tryz.prog 35 #[.pointer (some ⟨d, 0, none⟩), .int .i64 (kk : Int), .int .i64 (a : Int)] W0 fun e w' => e = .returned (.bool true) ∧ w' = W0) := by
    have := mayshow_any (2 ^ K) d b r t ((2 ^ J : Nat) : Int) (a : Int) W0 (hd0.step hb0).da (by omega) (by omega) (by omega)
    rw [hkk]
    rwa [hz, decide_eq_true rfl] at this
  have HDM : Hid (Calls Tryz.prog 40 #[.pointer (some ⟨d, 0, none⟩), .int .i64 (kk : Int)] W0 fun e w' => ∃ v ds, e = .returned v ∧ OwnP W0.heap.size w' 23 v ds ∧ DmL q b K m r t w' ds ∧ ds.getD 0 0 = d ∧ (∀ i, 1 ≤ i → i ≤ m → W0.heap.size ≤ ds.getD i 0) ∧ Below W0.heap.size W0 w') := by
    rw [hkk, hmm]
    exact domains_any q b d K J r t W0 (hd0.step hb0) hK hJ
  rw [hm] at hW0 hfo ⊢
  rw [← hmm] at hW0 hfo hm ⊢
  rw [← hkk]
  have HKK := hid hkk
  have HMM := hid hmm
  have HHB := hid hB
  have HHF := hid hF
  have HHD := hid hdm
  have HHP := hid hP
  have HDG := hid hD
  have HSP := hid hs
  have HOK := hid ok
  have HB0 := hid hb0
  have HFO := hid hfo
  have HRL := hid hm
  have hm16 : m ≤ 16 := by omega
  have hkb : kk ≤ 65536 := by omega
  have hk0 : 1 ≤ kk := by omega
  have hmK : m + 1 ≤ K := by omega
  have hJK : Hid (J ≤ 16) := by unfold Hid; omega
  clear hkk hmm hB hF hdm hP hD hs ok hb0 hfo hd0 hm hpow hpowJ hposJ
  go_enter Tryz.func17, Tryz.ntmps17
  go_wp2_with fail
  rw [← hW0]
  clear hW0
  refine HMS.out.mono ?_
  rintro e w1 ⟨rfl, rfl⟩
  go_wp2_with fail
  refine HDM.out.mono ?_
  rintro e w2 ⟨v, ds, rfl, hop, hdl, hdz, hdh, hb2⟩
  obtain ⟨go, co, hv, hgo1, hgo2, _, _, hco, hov⟩ := hop.form (by rw [hdl.len]; omega)
  subst hv
  obtain ⟨m1, hm1⟩ : ∃ m1, m1 = ds.length := ⟨_, rfl⟩
  rw [← hm1]
  have hm1e : m1 = m + 1 := by rw [hm1, hdl.len]
  have e1 : IntKind.i64.wrap ((m1 : Int) - 1) = (m : Int) := by rw [IntKind.wrap_i64]; omega
  have e2 : (m1 : Int) - 1 = (m : Int) := by omega
  have e4 : IntKind.i64.wrap (m : Int) = (m : Int) := by rw [IntKind.wrap_i64]; omega
  have hf2 := (hb2.block _ (Array.getElem?_eq_some_iff.1 HFO.out).1).trans HFO.out
  have d0 := thr0 hf2
  have HDL := hid (⟨hdl, hdz, hdh, hgo1, hov, hb2, hf2⟩ : DmL q b K m r t w2 ds ∧ ds.getD 0 0 = d ∧ (∀ i, 1 ≤ i → i ≤ m → w1.heap.size ≤ ds.getD i 0) ∧ w1.heap.size ≤ go ∧ (∀ k, k < ds.length → w2.cell? ⟨go, k, none⟩ = some (.pointer (some ⟨ds.getD k 0, 0, none⟩))) ∧ Below w1.heap.size w1 w2 ∧ w2.heap[W.heap.size]? = some (.cells #[.slice a1 m c1, .slice a2 last.length c2, .slice a3 os.length c3] 36 (0, 0)))
  have hmk2 := fun w => run_make_row' (P := Tryz.prog) 22 3 (.int .i64 0) 8 Tryz.underlying22 Tryz.infoInt rfl .i64 .i64 m (by omega) (by omega) w
  have HM1 := hid (⟨hm1, hm1e⟩ : m1 = ds.length ∧ m1 = m + 1)
  have HGO2 := hid hgo2
  clear hop hdl hdz hdh hgo1 hgo2 hov hb2 hf2 hm1 hm1e HMS HDM hco
  have hWl : W.heap.size < w2.heap.size := World.block_lt_of_cell? _ _ d0
  have HB3 : Hid (Below w2.heap.size w2 (w2.alloc (.cells (madeCells #[.int .i64 0] m) 3))) := (Below.refl _ _).alloc (Nat.le_refl _) _
  have HA3 : Hid (ArrI (w2.alloc (.cells (madeCells #[.int .i64 0] m) 3)) w2.heap.size 3 m (fun _ => 0)) := World.rowIs_made _ _ _ _
  have HCK : Hid (CkZ N0 q n dd b d s bs c K m r t a1 a2 a3 c1 c2 c3 roots last os ds go w2.heap.size D (fun _ => 0) W (w2.alloc (.cells (madeCells #[.int .i64 0] m) 3))) := by
    obtain ⟨x1, x2, x3, x4, x5, x6, x7⟩ := HDL.out
    have hbb := HB0.out.trans (x6.mono HB0.out.size)
    have hbc3 := hbb.trans (HB3.out.mono hbb.size)
    have hsz := HB0.out.size
    refine ⟨gb_below hbc3, HHP.out.below hbc3, (HB3.out.block _ hWl).trans x7, HHF.out, HHP.out.typ, x1.below HB3.out, fun i h1 h2 => Nat.le_trans hsz (x3 i h1 h2), fun k hk => ?_, Nat.le_trans hsz x4, hbb.size, HA3.out, hcl, hbc, HHD.out, x2, hcg⟩
    have := x5 k (by have := HM1.out; omega)
    exact (HB3.out.cell (p := ⟨go, k, none⟩) HGO2.out).trans this
  have HNE : Hid (go ≠ w2.heap.size ∧ w2.heap.size ≠ W.heap.size ∧ (∀ i, i ≤ m → ds.getD i 0 ≠ w2.heap.size) ∧ b ≠ w2.heap.size) := by
    obtain ⟨x1, x2, x3, x4, x5, x6, x7⟩ := HDL.out
    have hg := HGO2.out
    refine ⟨by omega, by omega, fun i hi => ?_, ?_⟩
    · have := (x1.dom i hi).dlt
      omega
    · have := (x1.dom 0 (by omega)).blt
      omega
  have HGY := hid (Nat.le_refl w2.heap.size)
  obtain ⟨gy, hgy⟩ : ∃ gy, gy = w2.heap.size := ⟨_, rfl⟩
  go_wp2_with fail
  rw [← hgy] at HCK HNE ⊢
  generalize w2.alloc (.cells (madeCells #[.int .i64 0] m) 3) = W3 at *
  obtain ⟨G, hG⟩ : ∃ G : Nat → Int, G = ckr q n roots D := ⟨_, rfl⟩
  have HG := hid hG
  clear hG hgy d0 hWl
  go_loopw [45] (fun iv wr => ∃ i : Nat, i ≤ m ∧ iv = .int .i64 i ∧ Hid (CkZ N0 q n dd b d s bs c K m r t a1 a2 a3 c1 c2 c3 roots last os ds go gy (ckD q n roots D i) (fll G (fun _ => 0) i) W wr)) (fun iv _ => m - (intOf iv).toNat)
  case atStart => exact ⟨0, by omega, rfl, by rw [fll_zero]; exact HCK.out⟩
  case round =>
    obtain ⟨i, hi, rfl, hI⟩ := hrel
    by_cases hlt : i < m
    · have hlt2 : (i : Int) < (m : Int) := by omega
      have his : IntKind.i64.wrap ((i : Int) + 1) = (i : Int) + 1 := by rw [IntKind.wrap_i64]; omega
      obtain ⟨br, orr, ak, ck, rfl, hrb, g3, g4⟩ := hI.out.fdw.r.row i (by rw [HRL.out]; exact hlt)
      have HDI : Hid (Dig (ckD q n roots D i)) := ⟨ckD_len HDG.out.1 i, ckD_fits h3 h4 HDG.out.2 i⟩
      have HTK : Hid (Calls Tryz.prog 55 #[.pointer (some ⟨c, 0, none⟩), .slice ak (rat roots i).length ck] wr fun e w' => e = .returned (.tuple #[]) ∧ PCh N0 q n w' c (digl q n (3 :: (ckD q n roots D i ++ rat roots i))) ∧ wr.grownBy w' (some c)) :=
        ctake_any N0 q n c ck ak (rat roots i) _ wr hI.out.pc HDI.out (HHB.out.r2 i (by rw [HRL.out]; exact hlt)) (HHB.out.r3 i (by rw [HRL.out]; exact hlt)).1 g4
      have HDR : Hid (∀ w', PCh N0 q n w' c (digl q n (3 :: (ckD q n roots D i ++ rat roots i))) → Calls Tryz.prog 56 #[.pointer (some ⟨c, 0, none⟩)] w' fun e w'' => e = .returned (.int .i64 (G i)) ∧ PCh N0 q n w'' c (ckD q n roots D (i + 1)) ∧ w'.grownBy w'' (some c)) := fun w' hp => by
        rw [HG.out]
        exact cdraw_any N0 q n c _ w' hp (dig_digl h3 h4 _ _)
      clear hrb g4
      generalize (rat roots i).length = rn at *
      go_wp2_with fail
      refine HTK.out.mono ?_
      rintro e w4 ⟨rfl, hp4, hg4⟩
      have HC4 := hid (hI.out.turn hg4 hp4)
      have HD4 := hid (HDR.out w4 hp4)
      clear hp4 hg4 HTK HDR
      go_wp2_with fail
      refine HD4.out.mono ?_
      rintro e w5 ⟨rfl, hp5, hg5⟩
      have HC5 := hid (HC4.out.turn hg5 hp5)
      have cc := HC5.out.br.cell hlt
      have cf := HC5.out.br.frozen i
      have HE := hid (HC5.out.put HNE.out.1 HNE.out.2.1 HNE.out.2.2.1 HNE.out.2.2.2 i (G i) HC5.out.br.next)
      clear hp5 hg5 HD4 HC4 HC5 hI g3
      generalize G i = y at *
      generalize fll G (fun _ => 0) i i = y0 at *
      go_wp2_with fail
      go_roundw
      case rel => exact ⟨i + 1, by omega, by go_num, HE⟩
      case measure => simp [intOf]; omega
    · obtain rfl : i = m := by omega
      have hlt2 : ¬ (i : Int) < (i : Int) := by omega
      have HC6 : Hid (CkZ N0 q n dd b d s bs c K i r t a1 a2 a3 c1 c2 c3 roots last os ds go gy (ckD q n roots D i) G W wr) := by
        obtain ⟨x1, x2, x3, x4, x5, x6, x7, x8, x9, x10, x11, x12, x13, x14, x15, x16⟩ := hI.out
        exact ⟨x1, x2, x3, x4, x5, x6, x7, x8, x9, x10, x11.congr (fun j hj => fll_all hj), x12, x13, x14, x15, x16⟩
      have dl := thr1 HC6.out.fb
      clear hI
      have HTL : Hid (Calls Tryz.prog 55 #[.pointer (some ⟨c, 0, none⟩), .slice a2 last.length c2] wr fun e w' => e = .returned (.tuple #[]) ∧ PCh N0 q n w' c (ckL q n roots last D i) ∧ wr.grownBy w' (some c)) :=
        ctake_any N0 q n c c2 a2 last _ wr HC6.out.pc ⟨ckD_len HDG.out.1 i, ckD_fits h3 h4 HDG.out.2 i⟩ HHB.out.l1 HHB.out.l2 HC6.out.fdw.l
      obtain ⟨H, hH⟩ : ∃ H, H = 2 ^ K / 2 := ⟨_, rfl⟩
      have hH2 : 2 * H = 2 ^ K := by
        rw [hH]
        have : 2 ^ K = 2 * 2 ^ (K - 1) := by
          have h1 : K = (K - 1) + 1 := by omega
          rw [h1, Nat.pow_succ]; simp; omega
        omega
      have hpK : 2 ^ K ≤ 65536 := Nat.le_trans (Nat.pow_le_pow_right (by omega) hK) (by decide)
      have hpK0 := Nat.two_pow_pos K
      have HDP : Hid (∀ w7, wr.grownBy w7 (some c) → PCh N0 q n w7 c (ckL q n roots last D i) → Calls Tryz.prog 57 #[.pointer (some ⟨c, 0, none⟩), .pointer (some ⟨d, 0, none⟩), .int .i64 (a : Int)] w7 fun e w' => e = .returned (.slice (some ⟨w7.heap.size, 0, none⟩) a a) ∧ ArrI w' w7.heap.size 3 a (plz q n H (ckL q n roots last D i)) ∧ PCh N0 q n w' c (pld q n a (ckL q n roots last D i)) ∧ w7.grownBy w' (some c)) := fun w7 hg7 hp7 => by
        refine drawplaces_any N0 q n c d b H a r t _ w7 h3 h4 hp7 (dig_digl h3 h4 _ _) (fun W' hb => ?_) (by omega) (by omega) (by omega)
        have hbw : Below N0 W w7 := gb_to (gb_trans HC6.out.gr hg7) hcg (by omega)
        have := (HC6.out.dz W' (hbw.trans hb)).da
        rw [hH2]
        exact this
      have HH := hid (⟨hH, hH2⟩ : H = 2 ^ K / 2 ∧ 2 * H = 2 ^ K)
      clear hH hH2 hpK hpK0
      go_wp2_with fail
      refine HTL.out.mono ?_
      rintro e w7 ⟨rfl, hp7, hg7⟩
      have HC7 := hid (HC6.out.turn hg7 hp7)
      have HX7 := hid (HDP.out w7 hg7 hp7)
      have HW7 : Hid (W.heap.size ≤ w7.heap.size) := HC7.out.gr.size
      clear hp7 hg7 HTL HDP HC6 dl
      go_wp2_with fail
      refine HX7.out.mono ?_
      rintro e w8 ⟨rfl, hA8, hp8, hg8⟩
      have HC8 := hid (HC7.out.turn hg8 hp8)
      have HA8 := hid hA8
      clear hA8 hp8 hg8 HC7 HX7
      obtain ⟨gp, hgp⟩ : ∃ gp, gp = w7.heap.size := ⟨_, rfl⟩
      rw [← hgp] at HA8 HW7 ⊢
      clear hgp
      have d1 := thr1 HC8.out.fb
      have d0 := thr0 HC8.out.fb
      have d2 := thr2 HC8.out.fb
      obtain ⟨tp, htp⟩ : ∃ tp, tp = tpn q (zat last) last.length := ⟨_, rfl⟩
      have HD8 : Hid (DO w8 q b d (2 ^ K) r t) := by
        have := HC8.out.dm.dom 0 (by omega)
        rwa [HC8.out.d0] at this
      have HFI : Hid (∀ W', Below w8.heap.size w8 W' → Calls Tryz.prog 59 #[.pointer (some ⟨d, 0, none⟩)] W' fun e w' => e = .returned (.pointer (some ⟨b, 0, none⟩)) ∧ w' = W') := fun W' hb => dfield_any d b _ r t W' (HD8.out.step hb).da
      have HDE : Hid (∀ W', Below w8.heap.size w8 W' → Calls Tryz.prog 58 #[.pointer (some ⟨b, 0, none⟩), .slice a2 last.length c2] W' fun e w' => e = .returned (.int .i64 ((tp : Int) - 1)) ∧ w' = W') := fun W' hb => by
        rw [htp]
        exact (deg_any q b last.length c2 (· < w8.heap.size) a2 (zat last) W' h3 h4 (HD8.out.step hb).hp (by have := HHB.out.l1; omega) HHB.out.l2 (HC8.out.fdw.l.row.below hb))
      have HKP : Hid (∀ W', Below w8.heap.size w8 W' → Below w8.heap.size w8 W' ∧ W'.cell? ⟨W.heap.size, 1, none⟩ = some (.slice a2 last.length c2)) := fun W' hb => ⟨hb, (hb.cell (p := ⟨W.heap.size, 1, none⟩) (World.block_lt_of_cell? _ _ d1)).trans d1⟩
      have hdd : Below w8.heap.size w8 w8.drew := (Below.refl _ _).drew
      have HTP := hid htp
      obtain ⟨mk, hmk⟩ : ∃ mk, mk = 2 ^ (J - (J - 2)) := ⟨_, rfl⟩
      have HMKK : Hid (((kk : Int) ≤ 4 ∧ mk = kk) ∨ (¬ (kk : Int) ≤ 4 ∧ mk = 4)) := by
        unfold Hid
        have h1 := HKK.out
        rcases Nat.lt_or_ge J 3 with g | g
        · left
          have h2 : J - (J - 2) = J := by omega
          rw [hmk, h2, ← h1]
          have h5 : 2 ^ J ≤ 2 ^ 2 := Nat.pow_le_pow_right (by omega) (by omega)
          exact ⟨by omega, rfl⟩
        · right
          have h2 : J - (J - 2) = 2 := by omega
          rw [hmk, h2]
          have h5 : 2 ^ 3 ≤ 2 ^ J := Nat.pow_le_pow_right (by omega) g
          exact ⟨by omega, rfl⟩
      have HMK := hid hmk
      clear htp hmk
      go_wp2_with fail
      by_cases hdeg : (tp : Int) - 1 < (mk : Int)
      · have hdeg2 : ¬ (mk : Int) ≤ (tp : Int) - 1 := by omega
        refine wp_region_held_drew (S := fun W' => Below w8.heap.size w8 W' ∧ W'.cell? ⟨W.heap.size, 1, none⟩ = some (.slice a2 last.length c2)) (by kernel_rfl) (HKP.out _ hdd) (fun hHeld => ?_)
        refine wpAnyH_takeL (i := 0) (v := .pointer (some ⟨d, 0, none⟩)) rfl (by kernel_rfl) (by kernel_rfl) (by kernel_rfl) (fun _ _ _ h => h) (by rfl) (fun W' hC => by (obtain ⟨_, k0⟩ := hC); go_simp) hHeld ?_
        simp only [Act.put, List.setIfInBounds_toArray, List.set_cons_zero, List.set_cons_succ]
        refine wpAnyH_takeL (i := 2) (v := .pointer (some ⟨W.heap.size, 1, none⟩)) rfl (by kernel_rfl) (by kernel_rfl) (by kernel_rfl) (fun _ _ _ h => h) (by rfl) (fun W' hC => by (obtain ⟨_, k0⟩ := hC); go_simp) hHeld ?_
        simp only [Act.put, List.setIfInBounds_toArray, List.set_cons_zero, List.set_cons_succ]
        refine wpAnyH_takeL (i := 3) (v := .slice a2 last.length c2) rfl (by kernel_rfl) (by kernel_rfl) (by kernel_rfl) (fun _ _ _ h => h) (by rfl) (fun W' hC => by (obtain ⟨_, k0⟩ := hC); go_simp) hHeld ?_
        simp only [Act.put, List.setIfInBounds_toArray, List.set_cons_zero, List.set_cons_succ]
        refine wpAnyH_takeL (i := 5) (v := .int .i64 (kk : Int)) rfl (by kernel_rfl) (by kernel_rfl) (by kernel_rfl) (fun _ _ _ h => h) (by rfl) (fun W' hC => by (obtain ⟨_, k0⟩ := hC); go_simp) hHeld ?_
        simp only [Act.put, List.setIfInBounds_toArray, List.set_cons_zero, List.set_cons_succ]
        refine wpAnyH_takeL (i := 6) (v := .int .i64 (mk : Int)) rfl (by kernel_rfl) (by kernel_rfl) (by kernel_rfl) (fun _ _ _ h => h) (by rfl) (fun W' hC => by rcases HMKK.out with ⟨k1, rfl⟩ | ⟨k1, rfl⟩ <;> (go_simp; omega)) hHeld ?_
        simp only [Act.put, List.setIfInBounds_toArray, List.set_cons_zero, List.set_cons_succ]
        refine wpAnyH_ready (rs := [1]) (by kernel_rfl) (by simp) ?_
        refine AllReadyH.consL rfl (fun KK hK => ?_) AllReadyH.nil
        go_simp
        refine (HFI.out _ hdd).mono ?_
        rintro e w9 ⟨rfl, rfl⟩
        go_wp2_with fail
        refine hK.out _ _ hHeld (fun _ => ?_)
        clear hK KK
        refine wpAnyH_ready (rs := [4]) (by kernel_rfl) (by simp) ?_
        refine AllReadyH.consL rfl (fun KK hK => ?_) AllReadyH.nil
        go_simp
        refine (HDE.out _ hdd).mono ?_
        rintro e w9 ⟨rfl, rfl⟩
        go_wp2_with fail
        refine hK.out _ _ hHeld (fun _ => ?_)
        clear hK KK
        refine wpAnyH_takeL (i := 7) (v := .bool false) rfl (by kernel_rfl) (by kernel_rfl) (by kernel_rfl) (fun _ _ _ h => h) (by rfl) (fun W' hC => by (obtain ⟨_, k0⟩ := hC); go_simp) hHeld ?_
        simp only [Act.put, List.setIfInBounds_toArray, List.set_cons_zero, List.set_cons_succ]
        refine wpAnyH_done (by kernel_rfl) ?_ _
        have HSHP : Hid (ShP q n dd b s bs K i r t roots last os (ckA q n K roots last D i a) a1 a2 a3 (some ⟨gp, 0, none⟩) c1 c2 c3 a ds go co w8.drew) := by
          have hCd := HC8.out.step hdd
          have hbN2 : Below N0 W w8.drew := gb_to hCd.gr hcg (by omega)
          have hlen : (ckA q n K roots last D i a).length = a := ckA_len _ _ _ _ _ _ _ _
          have hb : ∀ j, 0 ≤ plz q n (2 ^ K / 2) (ckL q n roots last D i) j ∧ plz q n (2 ^ K / 2) (ckL q n roots last D i) j < ((2 ^ K / 2 : Nat) : Int) := fun j => plz_bounds (by have := HH.out; have := Nat.two_pow_pos K; omega) _ _
          have hpK : 2 ^ K ≤ 65536 := Nat.le_trans (Nat.pow_le_pow_right (by omega) hK) (by decide)
          refine ⟨HOK.out, HSP.out.below hbN2 hsN hbN, HHB.out, hCd.fdw, HRL.out, hCd.dm, hCd.ov, hK, hmK, by rw [hlen]; omega, fun j hj => ?_, ?_⟩
          · rw [hlen] at hj
            unfold ckA
            rw [ls_at _ _ _ hj]
            have := hb j
            omega
          · refine lst_arr (HA8.out.below hdd HA8.out.lt) hlen (fun j hj => ?_)
            unfold ckA
            rw [ls_at _ _ _ hj, HH.out.1]
        have HSW : Hid (Calls Tryz.prog 60 #[.pointer (some ⟨s, 0, none⟩), .slice (some ⟨go, 0, none⟩) m1 co, .agg #[.slice a1 i c1, .slice a2 last.length c2, .slice a3 os.length c3], .slice (some ⟨gp, 0, none⟩) a a] w8.drew fun e w' => (OkA q n K i roots os (ckA q n K roots last D i a) → ∃ v, e = .returned (.tuple #[v, .bool true]) ∧ ShW q K i r t os last (ckA q n K roots last D i a) w' v) ∧ (¬ OkA q n K i roots os (ckA q n K roots last D i a) → e = .returned (.tuple #[.slice none 0 0, .bool false])) ∧ Below w8.drew.heap.size w8.drew w') := by
          have := shownwords_any q n dd b s bs K i r t roots last os (ckA q n K roots last D i a) a1 a2 a3 (some ⟨gp, 0, none⟩) c1 c2 c3 a ds go co w8.drew HSHP.out
          rwa [ckA_len, HRL.out, ← HM1.out.2] at this
        have HC9 := hid (HC8.out.step hdd)
        have HA9 := hid (HA8.out.below hdd HA8.out.lt)
        clear hHeld HKP HFI HDE HD8 HC8 HA8 hdeg2 d0 d1 d2
        have d0 := thr0 HC9.out.fb
        have d1 := thr1 HC9.out.fb
        have d2 := thr2 HC9.out.fb
        generalize w8.drew = w9 at *
        go_wp2_with fail
        refine HSW.out.mono ?_
        rintro e w10 ⟨hy, hn, hb10⟩
        have HCA := hid (HC9.out.step hb10)
        have HAA := hid (HA9.out.below hb10 HA9.out.lt)
        have HFIN : Hid (∀ w', Below w10.heap.size w10 w' → PCh N0 q n w' c (pld q n a (ckL q n roots last D i)) ∧ W.grownBy w' (some c)) := fun w' hb => ⟨HCA.out.pc.below hb, gb_trans HCA.out.gr (gb_below hb)⟩
        by_cases hOK : OkA q n K i roots os (ckA q n K roots last D i a)
        · obtain ⟨v, rfl, hsh⟩ := hy hOK
          have HSH := hid hsh
          have HHO := hid hOK
          clear hy hn hb10 hsh hOK HSW HC9 HA9
          obtain ⟨vals, hvo, hvk⟩ := HSH.out
          rcases hvo.2 with ⟨_, h0⟩ | ⟨gw, cw, cur, hveq, _, _, hcw, _, _, _⟩
          · omega
          · subst hveq
            have HVO := hid hvo
            have HVK := hid hvk
            rw [← HM1.out.2]
            clear hvo hvk HSH
            go_wp2_with fail
            go_loopw [87] (fun iv wr => ∃ k : Nat, k ≤ i ∧ iv = .int .i64 k ∧ Hid ((∀ j, j < k → ftb q (2 ^ (K - j - 1)) (sqi q r j) (sqi q t j) (G j) (fk q K i r t os last j) (fk q K i r t os last (j + 1)) (ckA q n K roots last D i a) = true) ∧ Below w10.heap.size w10 wr)) (fun iv _ => i - (intOf iv).toNat)
            case atStart => exact ⟨0, by omega, rfl, fun j hj => by omega, Below.refl _ _⟩
            case round =>
              obtain ⟨k, hk, rfl, hI⟩ := hrel
              by_cases hlk : k < i
              · have hlk2 : (k : Int) < (i : Int) := by omega
                obtain ⟨k1, hk1⟩ : ∃ k1, k1 = k + 1 := ⟨_, rfl⟩
                have e5 : IntKind.i64.wrap ((k : Int) + 1) = (k1 : Int) := by rw [IntKind.wrap_i64]; omega
                have e6 : (k : Int) + 1 = (k1 : Int) := by omega
                have e7 : (k : Int) < (m1 : Int) := by have := HM1.out; omega
                have e8 : (k1 : Int) < (m1 : Int) := by have := HM1.out; omega
                have e9 : IntKind.i64.wrap (k1 : Int) = (k1 : Int) := by rw [IntKind.wrap_i64]; omega
                have hbw := hI.out.2
                have hCr := HCA.out.step hbw
                have y0 := hCr.br.cell hlk
                have HPL : Hid (∀ j, j < (ckA q n K roots last D i a).length → 0 ≤ zat (ckA q n K roots last D i a) j) := fun j hj => by
                  rw [ckA_len] at hj
                  unfold ckA
                  rw [ls_at _ _ _ hj]
                  exact (plz_bounds (by have := HH.out; have := Nat.two_pow_pos K; omega) _ _).1
                obtain ⟨u1, hu1, hk1w⟩ := HVK.out k (by omega)
                obtain ⟨u2, hu2, hk2w⟩ := HVK.out k1 (by omega)
                have HK1 := hid hk1w
                have HK2 := hid hk2w
                obtain ⟨F1, x1, x2, rfl, _, _⟩ := hk1w
                obtain ⟨F2, z1, z2, rfl, _, _⟩ := hk2w
                have v1 := (hbw.cell (p := ⟨gw, k, none⟩) (HVO.out.lt gw rfl).2).trans ((HVO.out.cellAt k (by omega)).trans hu1)
                have v2 := (hbw.cell (p := ⟨gw, k1, none⟩) (HVO.out.lt gw rfl).2).trans ((HVO.out.cellAt k1 (by omega)).trans hu2)
                have v0 := hCr.ov k (by omega)
                obtain ⟨dk, hdk⟩ : ∃ dk, dk = ds.getD k 0 := ⟨_, rfl⟩
                rw [← hdk] at v0
                obtain ⟨E, hE⟩ : ∃ E, E = ftb q (2 ^ (K - k - 1)) (sqi q r k) (sqi q t k) (G k) (fk q K i r t os last k) (fk q K i r t os last (k + 1)) (ckA q n K roots last D i a) := ⟨_, rfl⟩
                have HFT : Hid (∀ W', Below wr.heap.size wr W' → Calls Tryz.prog 61 #[.pointer (some ⟨dk, 0, none⟩), .func (.func F1) #[] #[.pointer (some ⟨x1, 0, none⟩), .pointer (some ⟨x2, 0, none⟩)], .func (.func F2) #[] #[.pointer (some ⟨z1, 0, none⟩), .pointer (some ⟨z2, 0, none⟩)], .int .i64 (G k), .slice (some ⟨gp, 0, none⟩) a a] W' fun e w' => e = .returned (.bool E) ∧ Below wr.heap.size wr w') := fun W' hb => by
                  have hbb := hbw.trans (hb.mono hbw.size)
                  have hD := (hCr.dm.dom k (by omega)).step hb
                  rw [← hdk] at hD
                  have hlen : (ckA q n K roots last D i a).length = a := ckA_len _ _ _ _ _ _ _ _
                  have hgk : -9223372036854775808 ≤ G k ∧ G k ≤ 9223372036854775807 := by rw [HG.out]; exact (digl_fits h3 h4 _ _).all 0
                  have hpw : 2 * 2 ^ (K - k - 1) = 2 ^ (K - k) := by
                    have h1 : 2 ^ (K - k) = 2 ^ ((K - k - 1) + 1) := by congr 1; omega
                    rw [h1, Nat.pow_succ]; omega
                  have := foldsto_any q b dk (K - k) (2 ^ (K - k - 1)) a (sqi q r k) (sqi q t k) (G k) _ _ (Pk K i (ckA q n K roots last D i a) k) (Pk K i (ckA q n K roots last D i a) k1) (fk q K i r t os last k) (fk q K i r t os last k1) (some ⟨gp, 0, none⟩) (ckA q n K roots last D i a) W' hD (by omega) hpw (HK1.out.step hbb) (HK2.out.step hbb) (by rw [hlen]; omega) (fun j hj => ?_) ?_ (fun x hx => ?_) hgk.1 hgk.2
                  · rw [hlen] at this
                    refine this.mono ?_
                    rintro e w' ⟨rfl, hb'⟩
                    rw [hE, hk1]
                    exact ⟨rfl, hb.trans (hb'.mono hb.size)⟩
                  · refine ⟨HPL.out j hj, ?_⟩
                    rw [hlen] at hj
                    unfold ckA
                    rw [ls_at _ _ _ hj]
                    have h1 := (plz_bounds (q := q) (n := n) (N := 2 ^ K / 2) (by have := HH.out; have := Nat.two_pow_pos K; omega) (ckL q n roots last D i) j).2
                    have hpK : 2 ^ K ≤ 65536 := Nat.le_trans (Nat.pow_le_pow_right (by omega) hK) (by decide)
                    omega
                  · refine lst_arr (HAA.out.below hbb HAA.out.lt) hlen (fun j hj => ?_)
                    unfold ckA
                    rw [ls_at _ _ _ hj, HH.out.1]
                  · rw [hk1]
                    exact asked_for h3 h4 (fun i' hi' => (HHB.out.o2 i' (by rw [HHO.out.1]; exact hi')).2.2.2.2.2.2.1) hmK HPL.out hlk x hx
                have HKP : Hid (∀ W', Below wr.heap.size wr W' → W'.cell? ⟨go, k, none⟩ = some (.pointer (some ⟨dk, 0, none⟩)) ∧ W'.cell? ⟨gw, k, none⟩ = some (.func (.func F1) #[] #[.pointer (some ⟨x1, 0, none⟩), .pointer (some ⟨x2, 0, none⟩)]) ∧ W'.cell? ⟨gw, k1, none⟩ = some (.func (.func F2) #[] #[.pointer (some ⟨z1, 0, none⟩), .pointer (some ⟨z2, 0, none⟩)])) := fun W' hb =>
                  ⟨(hb.cell (p := ⟨go, k, none⟩) (World.block_lt_of_cell? _ _ v0)).trans v0, (hb.cell (p := ⟨gw, k, none⟩) (World.block_lt_of_cell? _ _ v1)).trans v1, (hb.cell (p := ⟨gw, k1, none⟩) (World.block_lt_of_cell? _ _ v2)).trans v2⟩
                have HBW := hid hbw
                have HIA := hid hI.out.1
                have HK1E := hid hk1
                have HEE := hid hE
                have hdd2 : Below wr.heap.size wr wr.drew := (Below.refl _ _).drew
                clear hI hbw hCr hu1 hu2 hdk hE hk1
                obtain ⟨gk, hgk⟩ : ∃ gk, gk = G k := ⟨_, rfl⟩
                rw [← hgk] at y0 HFT
                clear hgk
                cases E with
                | true =>
                  go_wp2_with fail
                  go_region_held3 (fun W' => W'.cell? ⟨go, k, none⟩ = some (.pointer (some ⟨dk, 0, none⟩)) ∧ W'.cell? ⟨gw, k, none⟩ = some (.func (.func F1) #[] #[.pointer (some ⟨x1, 0, none⟩), .pointer (some ⟨x2, 0, none⟩)]) ∧ W'.cell? ⟨gw, k1, none⟩ = some (.func (.func F2) #[] #[.pointer (some ⟨z1, 0, none⟩), .pointer (some ⟨z2, 0, none⟩)])) (exact HKP.out _ (by assumption))
                    (first
                      | (go_at_call 61; refine (HFT.out _ (by assumption)).mono ?_; rintro e w' ⟨rfl, hb'⟩))
                  have HB2 := hid (HBW.out.trans (hb'.mono HBW.out.size))
                  have HJ : Hid (∀ j, j < k1 → ftb q (2 ^ (K - j - 1)) (sqi q r j) (sqi q t j) (G j) (fk q K i r t os last j) (fk q K i r t os last (j + 1)) (ckA q n K roots last D i a) = true) := fun j hj => by
                    rcases Nat.lt_or_ge j k with g | g
                    · exact HIA.out j g
                    · obtain rfl : j = k := by have := HK1E.out; omega
                      exact HEE.out.symm
                  go_wp2_with fail
                  go_roundw
                  case rel => exact ⟨k1, by have := HK1E.out; omega, by go_num, HJ.out, HB2.out⟩
                  case measure => have := HK1E.out; simp [intOf]; omega
                | false =>
                  go_wp2_with fail
                  go_region_held3 (fun W' => W'.cell? ⟨go, k, none⟩ = some (.pointer (some ⟨dk, 0, none⟩)) ∧ W'.cell? ⟨gw, k, none⟩ = some (.func (.func F1) #[] #[.pointer (some ⟨x1, 0, none⟩), .pointer (some ⟨x2, 0, none⟩)]) ∧ W'.cell? ⟨gw, k1, none⟩ = some (.func (.func F2) #[] #[.pointer (some ⟨z1, 0, none⟩), .pointer (some ⟨z2, 0, none⟩)])) (exact HKP.out _ (by assumption))
                    (first
                      | (go_at_call 61; refine (HFT.out _ (by assumption)).mono ?_; rintro e w' ⟨rfl, hb'⟩))
                  have HE2 := hid (HFIN.out w' (HBW.out.trans (hb'.mono HBW.out.size)))
                  have HNP : Hid (¬ CkP q n K J r t roots last os D a) := fun h => by
                    have h1 := h.2.2.2
                    rw [← HMM.out] at h1
                    have h2 := (rounds_iff (q := q) (K := K) (m := i) (r := r) (s := t) (os := os) (last := last) (drawn := ls (ckr q n roots D) i) (l := ckA q n K roots last D i a) (ls_len _ _) hmK HPL.out).2 (fun j hj => h1 j (by rw [ckA_len] at hj; exact hj)) k hlk
                    rw [ls_at _ _ _ hlk, ← HG.out] at h2
                    rw [h2] at HEE
                    exact absurd HEE.out (by simp)
                  go_wp2_with fail
                  go_ret2
                  exact ⟨fun h => absurd h HNP.out, fun _ => rfl, HE2.out.1, HE2.out.2⟩
              · obtain rfl : k = i := by omega
                have hlk2 : ¬ (k : Int) < (k : Int) := by omega
                have HPL : Hid (∀ j, j < (ckA q n K roots last D k a).length → 0 ≤ zat (ckA q n K roots last D k a) j) := fun j hj => by
                  rw [ckA_len] at hj
                  unfold ckA
                  rw [ls_at _ _ _ hj]
                  exact (plz_bounds (by have := HH.out; have := Nat.two_pow_pos K; omega) _ _).1
                have HCP : Hid (CkP q n K J r t roots last os D a) := by
                  refine ⟨by rw [← HMM.out]; exact HHO.out.1, ?_, by rw [← HMM.out]; exact HHO.out.2, ?_⟩
                  · rw [← HTP.out, ← HMK.out]; omega
                  · rw [← HMM.out]
                    intro j hj
                    refine (rounds_iff (q := q) (K := K) (m := k) (r := r) (s := t) (os := os) (last := last) (drawn := ls (ckr q n roots D) k) (l := ckA q n K roots last D k a) (ls_len _ _) hmK HPL.out).1 (fun i' hi' => ?_) j (by rw [ckA_len]; exact hj)
                    rw [ls_at _ _ _ hi', ← HG.out]
                    exact hI.out.1 i' hi'
                have HE2 := hid (HFIN.out wr hI.out.2)
                have HNL : Hid (NumL wr (some ⟨gp, 0, none⟩) a (ckA q n K roots last D k a)) := by
                  have hA := HAA.out.below hI.out.2 HAA.out.lt
                  refine ⟨lst_arr hA (ckA_len _ _ _ _ _ _ _ _) (fun j hj => ?_), fun _ => ⟨gp, 0, _, _, rfl, hA.heap⟩⟩
                  unfold ckA
                  rw [ls_at _ _ _ hj, HH.out.1]
                clear hI
                go_wp2_with fail
                go_ret2
                exact ⟨fun _ => ⟨_, _, rfl, HNL.out⟩, fun h => absurd HCP.out h, HE2.out.1, HE2.out.2⟩
        · obtain rfl := hn hOK
          have HNP : Hid (¬ CkP q n K J r t roots last os D a) := fun h => hOK (by
            have h1 := h.1
            have h2 := h.2.2.1
            rw [← HMM.out] at h1 h2
            exact ⟨h1, h2⟩)
          have HE := hid (HFIN.out w10 (Below.refl _ _))
          clear hy hn hb10 hOK HSW HC9 HA9
          go_wp2_with fail
          go_ret2
          exact ⟨fun h => absurd h HNP.out, fun _ => rfl, HE.out.1, HE.out.2⟩
      · have hdeg2 : (mk : Int) ≤ (tp : Int) - 1 := by omega
        refine wp_region_held_drew (S := fun W' => Below w8.heap.size w8 W' ∧ W'.cell? ⟨W.heap.size, 1, none⟩ = some (.slice a2 last.length c2)) (by kernel_rfl) (HKP.out _ hdd) (fun hHeld => ?_)
        refine wpAnyH_takeL (i := 0) (v := .pointer (some ⟨d, 0, none⟩)) rfl (by kernel_rfl) (by kernel_rfl) (by kernel_rfl) (fun _ _ _ h => h) (by rfl) (fun W' hC => by (obtain ⟨_, k0⟩ := hC); go_simp) hHeld ?_
        simp only [Act.put, List.setIfInBounds_toArray, List.set_cons_zero, List.set_cons_succ]
        refine wpAnyH_takeL (i := 2) (v := .pointer (some ⟨W.heap.size, 1, none⟩)) rfl (by kernel_rfl) (by kernel_rfl) (by kernel_rfl) (fun _ _ _ h => h) (by rfl) (fun W' hC => by (obtain ⟨_, k0⟩ := hC); go_simp) hHeld ?_
        simp only [Act.put, List.setIfInBounds_toArray, List.set_cons_zero, List.set_cons_succ]
        refine wpAnyH_takeL (i := 3) (v := .slice a2 last.length c2) rfl (by kernel_rfl) (by kernel_rfl) (by kernel_rfl) (fun _ _ _ h => h) (by rfl) (fun W' hC => by (obtain ⟨_, k0⟩ := hC); go_simp) hHeld ?_
        simp only [Act.put, List.setIfInBounds_toArray, List.set_cons_zero, List.set_cons_succ]
        refine wpAnyH_takeL (i := 5) (v := .int .i64 (kk : Int)) rfl (by kernel_rfl) (by kernel_rfl) (by kernel_rfl) (fun _ _ _ h => h) (by rfl) (fun W' hC => by (obtain ⟨_, k0⟩ := hC); go_simp) hHeld ?_
        simp only [Act.put, List.setIfInBounds_toArray, List.set_cons_zero, List.set_cons_succ]
        refine wpAnyH_takeL (i := 6) (v := .int .i64 (mk : Int)) rfl (by kernel_rfl) (by kernel_rfl) (by kernel_rfl) (fun _ _ _ h => h) (by rfl) (fun W' hC => by rcases HMKK.out with ⟨k1, rfl⟩ | ⟨k1, rfl⟩ <;> (go_simp; omega)) hHeld ?_
        simp only [Act.put, List.setIfInBounds_toArray, List.set_cons_zero, List.set_cons_succ]
        refine wpAnyH_ready (rs := [1]) (by kernel_rfl) (by simp) ?_
        refine AllReadyH.consL rfl (fun KK hK => ?_) AllReadyH.nil
        go_simp
        refine (HFI.out _ hdd).mono ?_
        rintro e w9 ⟨rfl, rfl⟩
        go_wp2_with fail
        refine hK.out _ _ hHeld (fun _ => ?_)
        clear hK KK
        refine wpAnyH_ready (rs := [4]) (by kernel_rfl) (by simp) ?_
        refine AllReadyH.consL rfl (fun KK hK => ?_) AllReadyH.nil
        go_simp
        refine (HDE.out _ hdd).mono ?_
        rintro e w9 ⟨rfl, rfl⟩
        go_wp2_with fail
        refine hK.out _ _ hHeld (fun _ => ?_)
        clear hK KK
        refine wpAnyH_takeL (i := 7) (v := .bool true) rfl (by kernel_rfl) (by kernel_rfl) (by kernel_rfl) (fun _ _ _ h => h) (by rfl) (fun W' hC => by (obtain ⟨_, k0⟩ := hC); go_simp) hHeld ?_
        simp only [Act.put, List.setIfInBounds_toArray, List.set_cons_zero, List.set_cons_succ]
        refine wpAnyH_done (by kernel_rfl) ?_ _
        have HE : Hid (PCh N0 q n w8.drew c (pld q n a (ckL q n roots last D i)) ∧ W.grownBy w8.drew (some c)) := ⟨HC8.out.pc.below hdd, gb_trans HC8.out.gr (gb_below hdd)⟩
        have HNP : Hid (¬ CkP q n K J r t roots last os D a) := fun h => by
          have h1 := h.2.1
          rw [← HTP.out, ← HMK.out] at h1
          omega
        go_wp2_with fail
        go_ret2
        exact ⟨fun h => absurd h HNP.out, fun _ => rfl, HE.out.1, HE.out.2⟩

end Go.Proofs.YtfppkjpgihnibaaGreatDoor

namespace Go.Proofs.YtfppkjpgihnibaaGreatDoor
open Go.RowKit

set_option maxRecDepth 100000 in
set_option maxHeartbeats 1000000 in
theorem check5_bad (d b s c N : Nat) (r t k asked : Int) (v1 v2 v3 : Value) (h1 : v1.oneCell' = true) (h2 : v2.oneCell' = true) (h3 : v3.oneCell' = true) (W : World) (hd : DomAt W d b (N : Int) r t) (hN : N ≤ 65536) (hk1 : -9223372036854775808 ≤ k) (hk2 : k ≤ 9223372036854775807) (hz : fz5 N k asked ≠ 0) (a1 a2 a3 : Option Addr) (n1 n2 n3 c1 c2 c3 : Nat) (e1 : v1 = .slice a1 n1 c1) (e2 : v2 = .slice a2 n2 c2) (e3 : v3 = .slice a3 n3 c3) :
    Calls Tryz.prog 17 #[.pointer (some ⟨s, 0, none⟩), .pointer (some ⟨c, 0, none⟩), .pointer (some ⟨d, 0, none⟩), .int .i64 k, .int .i64 asked, .agg #[v1, v2, v3]] W fun e w' => e = .returned (.tuple #[.slice none 0 0, .bool false]) ∧ Below W.heap.size W w' := by
  subst e1 e2 e3
  clear h1 h2 h3
  have hb : Below W.heap.size W (W.alloc (.cells #[.slice a1 n1 c1, .slice a2 n2 c2, .slice a3 n3 c3] 36)) := (Below.refl _ _).alloc (Nat.le_refl _) _
  have HMS := mayshow_any N d b r t k asked _ (hd.below hb hd.lt) hN hk1 hk2
  rw [decide_eq_false hz] at HMS
  have HM := hid HMS
  have HB := hid hb
  clear HMS hb hd hz
  go_enter Tryz.func17, Tryz.ntmps17
  go_wp2_with fail
  refine HM.out.mono ?_
  rintro e w1 ⟨rfl, rfl⟩
  go_wp2_with fail
  go_ret2
  exact ⟨rfl, HB.out⟩

set_option maxRecDepth 100000 in
set_option maxHeartbeats 1000000 in
theorem check5_roots (q d b s c K J a n1 : Nat) (r t : Int) (W : World) (D : DO W q b d (2 ^ K) r t) (hK : K ≤ 16) (hJ : J + 1 ≤ K) (hz : fz5 (2 ^ K) ((2 ^ J : Nat) : Int) (a : Int) = 0) (a1 a2 a3 : Option Addr) (n2 n3 c1 c2 c3 : Nat) (hn : n1 ≠ J - 2) (_hn1 : n1 ≤ 281474976710656) :
    Calls Tryz.prog 17 #[.pointer (some ⟨s, 0, none⟩), .pointer (some ⟨c, 0, none⟩), .pointer (some ⟨d, 0, none⟩), .int .i64 ((2 ^ J : Nat) : Int), .int .i64 (a : Int), .agg #[.slice a1 n1 c1, .slice a2 n2 c2, .slice a3 n3 c3]] W fun e w' => e = .returned (.tuple #[.slice none 0 0, .bool false]) ∧ Below W.heap.size W w' := by
  have hpow : 2 ^ K ≤ 2 ^ 16 := Nat.pow_le_pow_right (by omega) hK
  have hpowJ : 2 ^ J ≤ 2 ^ 16 := Nat.pow_le_pow_right (by omega) (by omega)
  have hposJ := Nat.two_pow_pos J
  obtain ⟨W0, hW0⟩ : ∃ W0, W0 = W.alloc (.cells #[.slice a1 n1 c1, .slice a2 n2 c2, .slice a3 n3 c3] 36) := ⟨_, rfl⟩
  have hb : Below W.heap.size W W0 := by rw [hW0]; exact (Below.refl _ _).alloc (Nat.le_refl _) _
  have hfo : W0.heap[W.heap.size]? = some (.cells #[.slice a1 n1 c1, .slice a2 n2 c2, .slice a3 n3 c3] 36 (0, 0)) := by rw [hW0]; exact heap_alloc_new W _
  have HMS := mayshow_any (2 ^ K) d b r t ((2 ^ J : Nat) : Int) (a : Int) W0 (D.step hb).da (by omega) (by omega) (by omega)
  rw [hz, decide_eq_true rfl] at HMS
  have HDM := hid (domains_any q b d K J r t W0 (D.step hb) hK hJ)
  have HM := hid HMS
  have HB := hid hb
  have HFO := hid hfo
  obtain ⟨m, hm⟩ : ∃ m, m = J - 2 := ⟨_, rfl⟩
  have hm16 : m ≤ 16 := by omega
  rw [← hm] at HDM hn
  have HNE := hid hn
  clear HMS hb D hz hfo hpow hm hJ hn hpowJ hposJ
  generalize ((2 ^ J : Nat) : Int) = kk at *
  go_enter Tryz.func17, Tryz.ntmps17
  go_wp2_with fail
  rw [← hW0]
  clear hW0
  refine HM.out.mono ?_
  rintro e w1 ⟨rfl, rfl⟩
  go_wp2_with fail
  refine HDM.out.mono ?_
  rintro e w2 ⟨v, ds, rfl, hop, hdl, _, _, hb2⟩
  obtain ⟨go, co, hv, _, _, _, _, _, _⟩ := hop.form (by rw [hdl.len]; omega)
  subst hv
  obtain ⟨m1, hm1⟩ : ∃ m1, m1 = ds.length := ⟨_, rfl⟩
  have hm1e : m1 = m + 1 := by rw [hm1, hdl.len]
  rw [← hm1]
  have e1 : IntKind.i64.wrap ((m1 : Int) - 1) = (m : Int) := by rw [IntKind.wrap_i64]; omega
  have e2 : (m1 : Int) - 1 = (m : Int) := by omega
  have e4 : IntKind.i64.wrap (m : Int) = (m : Int) := by rw [IntKind.wrap_i64]; omega
  have d0 := thr0 ((hb2.block _ (Array.getElem?_eq_some_iff.1 HFO.out).1).trans HFO.out)
  have HE := hid (HB.out.trans (hb2.mono HB.out.size))
  have hne := HNE.out
  clear hop hdl hb2 hm1 hm1e HM HDM
  go_wp2_with fail
  go_ret2
  exact ⟨rfl, HE.out⟩

/-- what Check must answer, it answers -/
theorem ock_as : OckAs := by
  intro N0 q n dd b d s bs c K r t k asked a1 a2 a3 c1 c2 c3 roots last os D W hdm ok hs hsN hbN hP hD hB hF hk1 hk2 hq1 hq2
  have hD0 := hdm W (Below.refl _ _)
  have hK : K ≤ 16 := by
    obtain ⟨k', h1, h2⟩ := hD0.hk
    rcases Nat.lt_or_ge 16 K with g | g
    · have h3 : 2 ^ 17 ≤ 2 ^ K := Nat.pow_le_pow_right (by omega) g
      have h4 : 2 ^ k' ≤ 2 ^ 16 := Nat.pow_le_pow_right (by omega) h1
      omega
    · exact g
  have hle : 2 ^ K ≤ 2 ^ 16 := Nat.pow_le_pow_right (by omega) hK
  by_cases hz : fz5 (2 ^ K) k asked = 0
  · obtain ⟨J, a, rfl, rfl, hJ, ha1, ha⟩ := fz5_says hK hz
    have hlg : (((2 ^ J : Nat) : Int)).toNat.log2 = J := by rw [Int.toNat_natCast]; exact Nat.log2_two_pow
    by_cases hm : roots.length = J - 2
    · refine (check5_any N0 q n dd b d s bs c K J a r t a1 a2 a3 c1 c2 c3 roots last os D W hdm ok hs hsN hbN hP hD hB hF hK hJ ha1 ha hz hm).mono ?_
      rintro e w' ⟨g1, g2, g3, g4⟩
      have hc : ¬ (fz5 (2 ^ K) ((2 ^ J : Nat) : Int) (a : Int) ≠ 0 ∨ roots.length ≠ ((2 ^ J : Nat) : Int).toNat.log2 - 2) := by rw [hlg]; rintro (h | h); exact h hz; exact h hm
      unfold cko
      rw [if_neg hc, hlg, Int.toNat_natCast]
      by_cases hp : CkP q n K J r t roots last os D a
      · rw [if_pos hp]
        obtain ⟨av, cv, e1, e2⟩ := g1 hp
        refine ⟨av, cv, ?_, e2, g3, g4⟩
        rw [e1, ckA_len]
      · rw [if_neg hp]
        exact ⟨none, 0, g2 hp, numL_nil _, g3, g4⟩
    · refine (check5_roots q d b s c K J a roots.length r t W hD0 hK hJ hz a1 a2 a3 _ _ c1 c2 c3 hm (by have := hB.r1; omega)).mono ?_
      rintro e w' ⟨rfl, hb⟩
      unfold cko
      rw [if_pos (by rw [hlg]; exact Or.inr hm)]
      exact ⟨none, 0, rfl, numL_nil _, hP.below hb, gb_below hb⟩
  · refine (check5_bad d b s c (2 ^ K) r t k asked _ _ _ rfl rfl rfl W hD0.da (by omega) hk1 hk2 hz a1 a2 a3 _ _ _ c1 c2 c3 rfl rfl rfl).mono ?_
    rintro e w' ⟨rfl, hb⟩
    unfold cko
    rw [if_pos (Or.inl hz)]
    exact ⟨none, 0, rfl, numL_nil _, hP.below hb, gb_below hb⟩

end Go.Proofs.YtfppkjpgihnibaaGreatDoor
