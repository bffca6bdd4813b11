/- Package sums: total, allFixed, round. A region that draws its order, walked by hand: what is read is taken first. A region that draws its order, walked by hand: an operation that is not wanted is passed by. Package gates: fixed, sides. Package gates: what stands beneath, by a side. -/
import Derived.Test.YtpgnabmkfkcogaaGreatDoorGqAK
import Derived.Test.YtpgnabmkfkcogaaGreatDoorSpgs
import Derived.Test.YtpgnabmkfkcogaaGreatDoorFld
import Derived.OrdersHeld
import Derived.Deep.RegionHeld3
import Derived.Test.YtpgnabmkfkcogaaGreatDoorGqAL
namespace Go.Proofs.YtpgnabmkfkcogaaGreatDoor
open Go.RowKit

/-- rows of rows that lie in blocks of a kind -/
structure TabP (P : Nat → Prop) (w : World) (a : Option Addr) (cap : Nat) (rows : List (List Int)) : Prop where
  row : ∀ k, k < rows.length → ∃ b o ak ck, a = some ⟨b, o, none⟩ ∧ P b ∧ w.cell? ⟨b, o + k, none⟩ = some (.slice ak (rat rows k).length ck) ∧ RowP P w ak (rat rows k) ∧ (rat rows k).length ≤ ck ∧ (ak = none → ck = 0)
  room : rows.length ≤ cap
  nil : a = none → cap = 0
theorem TabP.lst {P : Nat → Prop} {w : World} {a : Option Addr} {cap n0 : Nat} {rows : List (List Int)} (h : TabP P w a cap rows) (hP : ∀ b, P b → b < n0) : LstR n0 w a cap rows :=
  ⟨fun k hk => by
    obtain ⟨b, o, ak, ck, h1, h2, h3, h4, h5, h6⟩ := h.row k hk
    exact ⟨b, o, ak, ck, h1, hP b h2, h3, ⟨fun j hj => by
      obtain ⟨b', o', g1, g2, g3⟩ := h4 j hj
      exact ⟨b', o', g1, hP b' g2, g3⟩, h5, h6⟩⟩, h.room, h.nil⟩
theorem TabP.keep {P : Nat → Prop} {w w' : World} {a : Option Addr} {cap : Nat} {rows : List (List Int)} (h : TabP P w a cap rows) (e : ∀ b, P b → w'.heap[b]? = w.heap[b]?) : TabP P w' a cap rows :=
  ⟨fun k hk => by
    obtain ⟨b, o, ak, ck, h1, h2, h3, h4, h5, h6⟩ := h.row k hk
    exact ⟨b, o, ak, ck, h1, h2, (World.cell?_of_block (w := w) (a := ⟨b, o + k, none⟩) (e b h2)).trans h3, fun j hj => by
      obtain ⟨b', o', g1, g2, g3⟩ := h4 j hj
      exact ⟨b', o', g1, g2, (World.cell?_of_block (w := w) (a := ⟨b', o' + j, none⟩) (e b' g2)).trans g3⟩, h5, h6⟩, h.room, h.nil⟩
theorem TabP.imp {P Q : Nat → Prop} {w : World} {a : Option Addr} {cap : Nat} {rows : List (List Int)} (h : TabP P w a cap rows) (e : ∀ b, P b → Q b) : TabP Q w a cap rows :=
  ⟨fun k hk => by
    obtain ⟨b, o, ak, ck, h1, h2, h3, h4, h5, h6⟩ := h.row k hk
    exact ⟨b, o, ak, ck, h1, e b h2, h3, fun j hj => by
      obtain ⟨b', o', g1, g2, g3⟩ := h4 j hj
      exact ⟨b', o', g1, e b' g2, g3⟩, h5, h6⟩, h.room, h.nil⟩

theorem ArrI.rowE {w : World} {g n n0 : Nat} {t : TypeId} {f : Nat → Int} (h : ArrI w g t n f) {zs : List Int} (hn : zs.length = n) (hz : ∀ j, j < n → zat zs j = f j) (hg : g < n0) : RowB n0 w (some ⟨g, 0, none⟩) zs := fun k hk => ⟨g, 0, rfl, hg, by rw [Nat.zero_add, h.cell (by omega), hz k (by omega)]⟩
theorem ArrI.lst {w : World} {g n n0 : Nat} {t : TypeId} {f : Nat → Int} (h : ArrI w g t n f) {zs : List Int} (hn : zs.length = n) (hz : ∀ j, j < n → zat zs j = f j) (hg : g < n0) : Lst n0 w (some ⟨g, 0, none⟩) n zs := ⟨h.rowE hn hz hg, by omega, fun e => by cases e⟩

end Go.Proofs.YtpgnabmkfkcogaaGreatDoor

namespace Go.Proofs.YtpgnabmkfkcogaaGreatDoor
open Go.RowKit

section
variable {P : Program} {ops : Array Oper} {Q : Exit → Act → World → Prop} {md : Region.Mode} {S : World → Prop}
theorem drop_atU {i : Nat} {oi : Oper} {rest : List Oper} (hl : ops.toList.drop i = oi :: rest) : ops[i]? = some oi := by
  have := congrArg (fun l => l[0]?) hl
  simpa [List.getElem?_drop] using this
theorem wpAnyH_takeU {i : Nat} {oi : Oper} {rest : List Oper} {v : Value} {fuel : Nat} {listed : Array Bool} {a : Act} {w : World} (hl : ops.toList.drop i = oi :: rest)
    (hs : Region.noSelect ops = true) (hf : Region.free md ops listed i = true) (hr : (Region.ready md ops listed).contains i = true)
    (hQ : ∀ c a w, Q (.panic c) (a.put oi.dst v) w → Q (.panic c) a w) (hw : Region.wanted oi (yielded ops a.tmps) = true) (hy : ∀ w, S w → (execOp a.eval oi).run P w = .ok (.value v) w) (hS : S w)
    (h : wpAnyH P md ops Q S fuel (listed.setIfInBounds i true) (a.put oi.dst v) w) : wpAnyH P md ops Q S (fuel + 1) listed a w :=
  wpAnyH_take (drop_atU hl) hs hf hr hQ (Or.inl ⟨hw, hy⟩) hS h
theorem AllReadyH.consU {fuel : Nat} {listed : Array Bool} {a : Act} {w : World} {i : Nat} {o : Oper} {rest : List Oper} {rs : List Nat} (hl : ops.toList.drop i = o :: rest)
    (h : ∀ K' : Act → World → Prop, Shut (∀ a w, S w → (S w → wpAnyH P md ops Q S fuel (listed.setIfInBounds i true) a w) → K' a w) → if Region.wanted o (yielded ops a.tmps) = true then Oper.wp P o a w K' Q else K' (a.put o.dst undef) w)
    (hs : AllReadyH P md ops Q S fuel listed a w rs) : AllReadyH P md ops Q S fuel listed a w (i :: rs) := AllReadyH.cons (drop_atU hl) h hs
end
theorem rg_appendU {o : Oper} {a : Act} {w w2 : World} {K : Act → World → Prop} {Q : Exit → Act → World → Prop} (s x : Operand) (tS tX : TypeId)
    (ho : o.op = .call { callee := .builtin .append, args := #[s, x], argTypes := #[tS, tX] }) (v u r : Value) (hs : a.eval s = v) (hx : a.eval x = u) (hrun : (Builtin.append_ #[tS, tX] o.type #[v, u]).run Tryz.prog w = .ok r w2)
    (h : K (a.put o.dst r) w2) : Oper.wp Tryz.prog o a w K Q := by
  unfold Oper.wp
  simp [execOp, ho, resolve, invoke, builtin, hs, hx, hrun, Result.andThen]
  exact h

end Go.Proofs.YtpgnabmkfkcogaaGreatDoor

namespace Go.Proofs.YtpgnabmkfkcogaaGreatDoor
open Go.RowKit

section
variable {P : Program} {ops : Array Oper} {Q : Exit → Act → World → Prop} {md : Region.Mode} {S : World → Prop}
theorem wpAnyH_skipV {i : Nat} {oi : Oper} {rest : List Oper} {fuel : Nat} {listed : Array Bool} {a : Act} {w : World} (hl : ops.toList.drop i = oi :: rest)
    (hs : Region.noSelect ops = true) (hf : Region.free md ops listed i = true) (hr : (Region.ready md ops listed).contains i = true)
    (hQ : ∀ c a w, Q (.panic c) (a.put oi.dst undef) w → Q (.panic c) a w) (hw : Region.wanted oi (yielded ops a.tmps) = false) (hS : S w)
    (h : wpAnyH P md ops Q S fuel (listed.setIfInBounds i true) (a.put oi.dst undef) w) : wpAnyH P md ops Q S (fuel + 1) listed a w :=
  wpAnyH_take (drop_atU hl) hs hf hr hQ (Or.inr ⟨hw, rfl⟩) hS h
end

end Go.Proofs.YtpgnabmkfkcogaaGreatDoor

namespace Go.Proofs.YtpgnabmkfkcogaaGreatDoor
open Go.RowKit

set_option maxRecDepth 100000 in
set_option maxHeartbeats 1000000 in
/-- sums.Fix of a table that has a variable: a new list -/
theorem gfix_new (p b v c1 : Nat) (a1 : Option Addr) (t : List Int) (r : Int) (W : World) (hF : InT p b W) (hL : InL W a1 c1 t) (e1 : v ≤ 12) (e2 : t.length = 2 ^ v) (hv : v ≠ 0) (hr1 : -9223372036854775808 ≤ r) (hr2 : r ≤ 9223372036854775807) :
    Calls Tryz.prog 213 #[.pointer (some ⟨b, 0, none⟩), .slice a1 t.length c1, .int .i64 r] W fun e w' => e = .returned (.tuple #[.slice (some ⟨W.heap.size, 0, none⟩) (fixl p t r).length (fixl p t r).length, .nilIface]) ∧ Lst w'.heap.size w' (some ⟨W.heap.size, 0, none⟩) (fixl p t r).length (fixl p t r) ∧ Below W.heap.size W w' := by
  have hl1 := hL.len
  have HI := hid (istable_any t.length c1 a1 W (by omega))
  rw [decide_eq_true ((vrs_iff _).2 ⟨v, e1, e2⟩)] at HI
  have HV := hid (vars_any t.length v c1 a1 W e1 e2 hF.tab)
  have hv2 : ((v : Int) == 0) = false := by simp; omega
  have HX := hid (fixed_any p b c1 a1 t r W W.heap.size hF.h3 hF.hm hF.cell hl1 hL.fit hr1 hr2 hL.lst.row (Nat.le_refl _))
  have HLE := hid (fixl_len p t r)
  obtain ⟨h2, hh2⟩ : ∃ h2, h2 = t.length / 2 := ⟨_, rfl⟩
  rw [← hh2] at HX HLE
  generalize t.length = n at *
  clear hF hL e1 e2 hv hh2
  go_enter Tryz.func213, Tryz.ntmps213
  go_wp2_with fail
  refine HI.out.mono ?_
  rintro e w1 ⟨rfl, rfl⟩
  go_wp2_with fail
  refine HV.out.mono ?_
  rintro e w2 ⟨rfl, rfl⟩
  go_wp2_with fail
  refine HX.out.mono ?_
  rintro e w3 ⟨rfl, hA, hb3⟩
  have HA3 := hid hA
  have HB3 := hid hb3
  clear hA hb3 HX
  go_wp2_with fail
  go_ret2
  rw [HLE.out]
  exact ⟨rfl, HA3.out.lst HLE.out (fun _ _ => rfl) HA3.out.lt, HB3.out⟩

set_option maxRecDepth 100000 in
set_option maxHeartbeats 1000000 in
/-- fixed: a table, its first variables let be some elements -/
theorem gfixed_any (p b n c1 c2 : Nat) (a1 a2 : Option Addr) (t fs : List Int) (w : World) (hIT : InT p b w) (hn : n ≤ 6) (ht : t.length = 2 ^ n) (hk : fs.length ≤ n) (ft : Fits t) (ff : Fits fs) (lt : Lst w.heap.size w a1 c1 t) (lf : RowB w.heap.size w a2 fs) :
    Calls Tryz.prog 161 #[.pointer (some ⟨b, 0, none⟩), .slice a1 t.length c1, .slice a2 fs.length c2] w fun e w' => ∃ a' c', e = .returned (.slice a' (fxs p t (zat fs) fs.length).length c') ∧ Lst w'.heap.size w' a' c' (fxs p t (zat fs) fs.length) ∧ (a' = a1 ∨ ∃ g, a' = some ⟨g, 0, none⟩ ∧ w.heap.size ≤ g) ∧ Below w.heap.size w w' := by
  have HFX : Hid (∀ (k : Nat) (a : Option Addr) (c : Nat) (r : Int) (W : World), k < fs.length → Below w.heap.size w W → Lst W.heap.size W a c (fxs p t (zat fs) k) → -9223372036854775808 ≤ r → r ≤ 9223372036854775807 → Calls Tryz.prog 213 #[.pointer (some ⟨b, 0, none⟩), .slice a (fxs p t (zat fs) k).length c, .int .i64 r] W fun e w' => ∃ c', e = .returned (.tuple #[.slice (some ⟨W.heap.size, 0, none⟩) (fixl p (fxs p t (zat fs) k) r).length c', .nilIface]) ∧ Lst w'.heap.size w' (some ⟨W.heap.size, 0, none⟩) c' (fixl p (fxs p t (zat fs) k) r) ∧ Below W.heap.size W w') := fun k a c r W hkl hW hl h1 h2 => by
    have hlen := fxs_len (p := p) (zat fs) ht k (by omega)
    have hp6 := pow_6 (v := n - k) (by omega)
    refine (gfix_new p b (n - k) c a (fxs p t (zat fs) k) r W (hIT.below hW) ⟨by omega, fxs_fits hIT.h3 hIT.hm _ ft k, hl⟩ (by omega) hlen (by omega) h1 h2).mono ?_
    rintro e w' ⟨h5, h6, h7⟩
    exact ⟨_, h5, h6, h7⟩
  have HLT : Hid (Lst w.heap.size w a1 c1 (fxs p t (zat fs) 0)) := lt
  have HLF := hid lf
  have HFF := hid ff
  have HS : Hid (∀ k, fxs p t (zat fs) (k + 1) = fixl p (fxs p t (zat fs) k) (zat fs k)) := fun k => rfl
  obtain ⟨T, hT⟩ : ∃ T : Nat → List Int, T = fxs p t (zat fs) := ⟨_, rfl⟩
  have hT0 : t = T 0 := by rw [hT]; rfl
  simp only [← hT] at HFX HLT HS ⊢
  rw [show t.length = (T 0).length from by rw [← hT0]]
  obtain ⟨m, hm⟩ : ∃ m, m = fs.length := ⟨_, rfl⟩
  have HM := hid hm
  simp only [← hm] at HFX hk ⊢
  clear lt lf ft ff hT hT0 hm ht
  go_enter Tryz.func161, Tryz.ntmps161
  go_wp2_with fail
  go_loopw [1, 8, 11] (fun tv _ iv wr => ∃ k : Nat, k ≤ m ∧ iv = .int .i64 (k : Int) ∧ ∃ a c, tv = .slice a (T k).length c ∧ Hid (Lst wr.heap.size wr a c (T k) ∧ (a = a1 ∨ ∃ g, a = some ⟨g, 0, none⟩ ∧ w.heap.size ≤ g) ∧ Below w.heap.size w wr)) (fun _ _ iv _ => m - (intOf iv).toNat)
  case atStart => exact ⟨0, by omega, rfl, a1, c1, rfl, HLT.out, Or.inl rfl, Below.refl _ _⟩
  case round =>
    obtain ⟨k, hk', rfl, a, c, rfl, hI⟩ := hrel
    by_cases hlt : k < m
    · have hlt2 : (k : Int) < (m : Int) := by omega
      have hks : IntKind.i64.wrap ((k : Int) + 1) = (k : Int) + 1 := by rw [IntKind.wrap_i64]; omega
      obtain ⟨b0, o0, rfl, hb0, hx0⟩ := HLF.out k (by rw [← HM.out]; exact hlt)
      have hx1 := (hI.out.2.2.cell (p := ⟨b0, o0 + k, none⟩) hb0).trans hx0
      obtain ⟨f1, f2⟩ := HFF.out.all k
      have HX := hid (HFX.out k a c (zat fs k) wr hlt hI.out.2.2 hI.out.1 f1 f2)
      rw [← HS.out k] at HX
      have HB := hid hI.out.2.2
      generalize zat fs k = r at *
      generalize T k = tk at *
      clear hI hx0 f1 f2
      go_wp2_with fail
      refine HX.out.mono ?_
      rintro e w1 ⟨c', rfl, hl1, hb1⟩
      have HE := hid (And.intro hl1 (And.intro (Or.inr ⟨wr.heap.size, rfl, HB.out.size⟩ : (some ⟨wr.heap.size, 0, none⟩ = a1 ∨ ∃ g, (some ⟨wr.heap.size, 0, none⟩ : Option Addr) = some ⟨g, 0, none⟩ ∧ w.heap.size ≤ g)) (HB.out.trans (hb1.mono HB.out.size))))
      clear hl1 hb1
      go_wp2_with fail
      go_roundw
      case rel => exact ⟨k + 1, by omega, by go_num, _, c', rfl, HE.out⟩
      case measure => simp [intOf]; omega
    · obtain rfl : k = m := by omega
      have hlt2 : ¬ (k : Int) < (k : Int) := by omega
      have HE := hid hI.out
      clear hI
      go_wp2_with fail
      go_ret
      exact ⟨a, c, rfl, HE.out⟩

set_option maxRecDepth 100000 in
theorem row_any (x y : Value) (g r : Nat) (w : World) (hr : r ≤ 60) :
    Calls Tryz.prog 251 #[.agg #[x, .int .i64 (r : Int), y], .int .i64 (g : Int)] w fun e w' => e = .returned (.int .i64 ((g / 2 ^ r : Nat) : Int)) ∧ Below w.heap.size w w' := by
  have HB : Hid (Below w.heap.size w (w.alloc (.cells #[x, .int .i64 (r : Int), y] 295))) := (Below.refl _ _).alloc (Nat.le_refl _) _
  have HE : Hid ((g : Int) / 2 ^ r = ((g / 2 ^ r : Nat) : Int)) := by unfold Hid; rw [Int.natCast_ediv]; simp
  go_enter Tryz.func251, Tryz.ntmps251
  go_wp2_with fail
  go_ret
  refine ⟨?_, HB.out⟩
  rw [← HE.out]
  rfl

end Go.Proofs.YtpgnabmkfkcogaaGreatDoor

namespace Go.Proofs.YtpgnabmkfkcogaaGreatDoor
open Go.RowKit

set_option maxRecDepth 100000 in
set_option maxHeartbeats 1000000 in
theorem stands_any (x : Value) (g r c : Nat) (a : Option Addr) (t : List Int) (w : World) (hr : r ≤ 6) (ht : t.length = 2 ^ r) (lt : Lst w.heap.size w a c t) :
    Calls Tryz.prog 248 #[.agg #[x, .int .i64 (r : Int), .slice a t.length c], .int .i64 (g : Int)] w fun e w' => e = .returned (.int .i64 (zat t (g % 2 ^ r))) ∧ Below w.heap.size w w' := by
  obtain ⟨W0, hW0⟩ : ∃ W0, W0 = w.alloc (.cells #[x, .int .i64 (r : Int), .slice a t.length c] 295) := ⟨_, rfl⟩
  obtain ⟨hb0, hs0, hz0⟩ := own_blk hW0
  obtain ⟨j, hj⟩ : ∃ j, j = g % 2 ^ r := ⟨_, rfl⟩
  have hjl : j < t.length := by rw [hj, ht]; exact Nat.mod_lt _ (Nat.two_pow_pos r)
  have hand : bits BinOp.and IntKind.i64 (g : Int) (((2 ^ r : Nat) : Int) - 1) = (j : Int) := by
    rw [andn_i64 r (g : Int) (by omega) _ (by have := Nat.two_pow_pos r; omega), hj]
    simp
  obtain ⟨b0, o0, rfl, hb1, hx0⟩ := lt.row j hjl
  have hx1 := (hb0.cell (p := ⟨b0, o0 + j, none⟩) hb1).trans hx0
  have hp6 := pow_6 hr
  obtain ⟨G, hG⟩ : ∃ G, G = w.heap.size := ⟨_, rfl⟩
  rw [← hG] at hs0
  have c1 : W0.cell? ⟨G, 1, none⟩ = some (.int .i64 (r : Int)) := by simp [World.cell?, hs0]
  have c2 : W0.cell? ⟨G, 2, none⟩ = some (.slice (some ⟨b0, o0, none⟩) t.length c) := by simp [World.cell?, hs0]
  have HB0 := hid hb0
  have HWG := hid hW0
  have HG := hid hG
  have hjl2 : (j : Int) < (t.length : Int) := by omega
  rw [← hj]
  have hX1 : 1 ≤ 2 ^ r := Nat.two_pow_pos r
  have hsh2 : IntKind.i64.wrap (2 ^ r) = ((2 ^ r : Nat) : Int) := by
    have e : (2 : Int) ^ r = ((2 ^ r : Nat) : Int) := by simp
    rw [e, IntKind.wrap_i64]
    omega
  have hxs : IntKind.i64.wrap (((2 ^ r : Nat) : Int) - 1) = ((2 ^ r : Nat) : Int) - 1 := by rw [IntKind.wrap_i64]; omega
  generalize 2 ^ r = X at *
  generalize zat t j = E at *
  generalize t.length = N at *
  clear hj hjl lt hs0 hz0 hb0 hW0 hG hx0 ht
  go_enter Tryz.func248, Tryz.ntmps248
  go_wp2_with fail
  rw [← HWG.out, ← HG.out]
  clear HWG
  refine wp_region_held_drew (S := fun W => W.cell? ⟨G, 1, none⟩ = some (.int .i64 (r : Int)) ∧ W.cell? ⟨G, 2, none⟩ = some (.slice (some ⟨b0, o0, none⟩) N c) ∧ W.cell? ⟨b0, o0 + j, none⟩ = some (.int .i64 E)) (by kernel_rfl) (⟨c1, c2, hx1⟩) (fun hHeld => ?_)
  refine wpAnyH_takeU (i := 0) (v := .pointer (some ⟨G, 2, none⟩)) rfl (by kernel_rfl) (by kernel_rfl) (by kernel_rfl) (fun _ _ _ h => h) (by rfl) (fun W hC => by go_simp) hHeld ?_
  simp only [Act.put, List.setIfInBounds_toArray, List.set_cons_zero, List.set_cons_succ]
  refine wpAnyH_takeU (i := 1) (v := .slice (some ⟨b0, o0, none⟩) N c) rfl (by kernel_rfl) (by kernel_rfl) (by kernel_rfl) (fun _ _ _ h => h) (by rfl) (fun W hC => by (obtain ⟨x1, x2, x3⟩ := hC); go_simp) hHeld ?_
  simp only [Act.put, List.setIfInBounds_toArray, List.set_cons_zero, List.set_cons_succ]
  refine wpAnyH_takeU (i := 2) (v := .int .i64 (g : Int)) rfl (by kernel_rfl) (by kernel_rfl) (by kernel_rfl) (fun _ _ _ h => h) (by rfl) (fun W hC => by go_simp) hHeld ?_
  simp only [Act.put, List.setIfInBounds_toArray, List.set_cons_zero, List.set_cons_succ]
  refine wpAnyH_takeU (i := 3) (v := .pointer (some ⟨G, 1, none⟩)) rfl (by kernel_rfl) (by kernel_rfl) (by kernel_rfl) (fun _ _ _ h => h) (by rfl) (fun W hC => by go_simp) hHeld ?_
  simp only [Act.put, List.setIfInBounds_toArray, List.set_cons_zero, List.set_cons_succ]
  refine wpAnyH_takeU (i := 4) (v := .int .i64 (r : Int)) rfl (by kernel_rfl) (by kernel_rfl) (by kernel_rfl) (fun _ _ _ h => h) (by rfl) (fun W hC => by (obtain ⟨x1, x2, x3⟩ := hC); go_simp) hHeld ?_
  simp only [Act.put, List.setIfInBounds_toArray, List.set_cons_zero, List.set_cons_succ]
  refine wpAnyH_takeU (i := 5) (v := .int .i64 (X : Int)) rfl (by kernel_rfl) (by kernel_rfl) (by kernel_rfl) (fun _ _ _ h => h) (by rfl) (fun W hC => by go_simp) hHeld ?_
  simp only [Act.put, List.setIfInBounds_toArray, List.set_cons_zero, List.set_cons_succ]
  refine wpAnyH_takeU (i := 6) (v := .int .i64 ((X : Int) - 1)) rfl (by kernel_rfl) (by kernel_rfl) (by kernel_rfl) (fun _ _ _ h => h) (by rfl) (fun W hC => by go_simp) hHeld ?_
  simp only [Act.put, List.setIfInBounds_toArray, List.set_cons_zero, List.set_cons_succ]
  refine wpAnyH_takeU (i := 7) (v := .int .i64 (j : Int)) rfl (by kernel_rfl) (by kernel_rfl) (by kernel_rfl) (fun _ _ _ h => h) (by rfl) (fun W hC => by go_simp) hHeld ?_
  simp only [Act.put, List.setIfInBounds_toArray, List.set_cons_zero, List.set_cons_succ]
  refine wpAnyH_takeU (i := 8) (v := .pointer (some ⟨b0, o0 + j, none⟩)) rfl (by kernel_rfl) (by kernel_rfl) (by kernel_rfl) (fun _ _ _ h => h) (by rfl) (fun W hC => by go_simp) hHeld ?_
  simp only [Act.put, List.setIfInBounds_toArray, List.set_cons_zero, List.set_cons_succ]
  refine wpAnyH_takeU (i := 9) (v := .int .i64 E) rfl (by kernel_rfl) (by kernel_rfl) (by kernel_rfl) (fun _ _ _ h => h) (by rfl) (fun W hC => by (obtain ⟨x1, x2, x3⟩ := hC); go_simp) hHeld ?_
  simp only [Act.put, List.setIfInBounds_toArray, List.set_cons_zero, List.set_cons_succ]
  refine wpAnyH_ready (rs := [10]) (by kernel_rfl) (by simp) ?_
  refine AllReadyH.consU rfl (fun K' hK' => ?_) AllReadyH.nil
  go_simp
  refine hK'.out _ _ (hHeld) (fun hHeld => ?_)
  clear hK' K'
  refine wpAnyH_done (by kernel_rfl) ?_ _
  go_wp2_with fail
  go_ret
  exact ⟨rfl, HB0.out.drew⟩

end Go.Proofs.YtpgnabmkfkcogaaGreatDoor
