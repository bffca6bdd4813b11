/- Package sums: total, allFixed, round. A region that draws its order, walked by hand: what is read is taken first. A region that draws its order, walked by hand: an operation that is not wanted is passed by. Package gates: fixed, sides. Package gates: what stands beneath, by a side. Package gates: sideOf. A region that draws its order, by what every operation keeps: one proof an operation, whatever the order. Own laws. -/
import Derived.Test.YtpgnabmkfkcogaaGreatDoorGmAH
import Derived.Test.YtpgnabmkfkcogaaGreatDoorSpgs
import Derived.Test.YtpgnabmkfkcogaaGreatDoorFld
import Derived.OrdersHeld
import Derived.Deep.RegionHeld3
import Derived.Test.YtpgnabmkfkcogaaGreatDoorGmAI
import Derived.Test.YtpgnabmkfkcogaaGreatDoorHeldS
import Derived.Below
namespace Go.Proofs.YtpgnabmkfkcogaaGreatDoor
open Go.RowKit

/-- rows of rows that lie in blocks of a kind -/
structure TabP (P : Nat → Prop) (w : World) (a : Option Addr) (cap : Nat) (rows : List (List Int)) : Prop where
  row : ∀ k, k < rows.length → ∃ b o ak ck, a = some ⟨b, o, none⟩ ∧ P b ∧ w.cell? ⟨b, o + k, none⟩ = some (.slice ak (rat rows k).length ck) ∧ RowP P w ak (rat rows k) ∧ (rat rows k).length ≤ ck ∧ (ak = none → ck = 0)
  room : rows.length ≤ cap
  nil : a = none → cap = 0
theorem TabP.lst {P : Nat → Prop} {w : World} {a : Option Addr} {cap n0 : Nat} {rows : List (List Int)} (h : TabP P w a cap rows) (hP : ∀ b, P b → b < n0) : LstR n0 w a cap rows :=
  ⟨fun k hk => by
    obtain ⟨b, o, ak, ck, h1, h2, h3, h4, h5, h6⟩ := h.row k hk
    exact ⟨b, o, ak, ck, h1, hP b h2, h3, ⟨fun j hj => by
      obtain ⟨b', o', g1, g2, g3⟩ := h4 j hj
      exact ⟨b', o', g1, hP b' g2, g3⟩, h5, h6⟩⟩, h.room, h.nil⟩
theorem TabP.keep {P : Nat → Prop} {w w' : World} {a : Option Addr} {cap : Nat} {rows : List (List Int)} (h : TabP P w a cap rows) (e : ∀ b, P b → w'.heap[b]? = w.heap[b]?) : TabP P w' a cap rows :=
  ⟨fun k hk => by
    obtain ⟨b, o, ak, ck, h1, h2, h3, h4, h5, h6⟩ := h.row k hk
    exact ⟨b, o, ak, ck, h1, h2, (World.cell?_of_block (w := w) (a := ⟨b, o + k, none⟩) (e b h2)).trans h3, fun j hj => by
      obtain ⟨b', o', g1, g2, g3⟩ := h4 j hj
      exact ⟨b', o', g1, g2, (World.cell?_of_block (w := w) (a := ⟨b', o' + j, none⟩) (e b' g2)).trans g3⟩, h5, h6⟩, h.room, h.nil⟩
theorem TabP.imp {P Q : Nat → Prop} {w : World} {a : Option Addr} {cap : Nat} {rows : List (List Int)} (h : TabP P w a cap rows) (e : ∀ b, P b → Q b) : TabP Q w a cap rows :=
  ⟨fun k hk => by
    obtain ⟨b, o, ak, ck, h1, h2, h3, h4, h5, h6⟩ := h.row k hk
    exact ⟨b, o, ak, ck, h1, e b h2, h3, fun j hj => by
      obtain ⟨b', o', g1, g2, g3⟩ := h4 j hj
      exact ⟨b', o', g1, e b' g2, g3⟩, h5, h6⟩, h.room, h.nil⟩

theorem ArrI.rowE {w : World} {g n n0 : Nat} {t : TypeId} {f : Nat → Int} (h : ArrI w g t n f) {zs : List Int} (hn : zs.length = n) (hz : ∀ j, j < n → zat zs j = f j) (hg : g < n0) : RowB n0 w (some ⟨g, 0, none⟩) zs := fun k hk => ⟨g, 0, rfl, hg, by rw [Nat.zero_add, h.cell (by omega), hz k (by omega)]⟩
theorem ArrI.lst {w : World} {g n n0 : Nat} {t : TypeId} {f : Nat → Int} (h : ArrI w g t n f) {zs : List Int} (hn : zs.length = n) (hz : ∀ j, j < n → zat zs j = f j) (hg : g < n0) : Lst n0 w (some ⟨g, 0, none⟩) n zs := ⟨h.rowE hn hz hg, by omega, fun e => by cases e⟩

end Go.Proofs.YtpgnabmkfkcogaaGreatDoor

namespace Go.Proofs.YtpgnabmkfkcogaaGreatDoor
open Go.RowKit

section
variable {P : Program} {ops : Array Oper} {Q : Exit → Act → World → Prop} {md : Region.Mode} {S : World → Prop}
theorem drop_atU {i : Nat} {oi : Oper} {rest : List Oper} (hl : ops.toList.drop i = oi :: rest) : ops[i]? = some oi := by
  have := congrArg (fun l => l[0]?) hl
  simpa [List.getElem?_drop] using this
theorem wpAnyH_takeU {i : Nat} {oi : Oper} {rest : List Oper} {v : Value} {fuel : Nat} {listed : Array Bool} {a : Act} {w : World} (hl : ops.toList.drop i = oi :: rest)
    (hs : Region.noSelect ops = true) (hf : Region.free md ops listed i = true) (hr : (Region.ready md ops listed).contains i = true)
    (hQ : ∀ c a w, Q (.panic c) (a.put oi.dst v) w → Q (.panic c) a w) (hw : Region.wanted oi (yielded ops a.tmps) = true) (hy : ∀ w, S w → (execOp a.eval oi).run P w = .ok (.value v) w) (hS : S w)
    (h : wpAnyH P md ops Q S fuel (listed.setIfInBounds i true) (a.put oi.dst v) w) : wpAnyH P md ops Q S (fuel + 1) listed a w :=
  wpAnyH_take (drop_atU hl) hs hf hr hQ (Or.inl ⟨hw, hy⟩) hS h
theorem AllReadyH.consU {fuel : Nat} {listed : Array Bool} {a : Act} {w : World} {i : Nat} {o : Oper} {rest : List Oper} {rs : List Nat} (hl : ops.toList.drop i = o :: rest)
    (h : ∀ K' : Act → World → Prop, Shut (∀ a w, S w → (S w → wpAnyH P md ops Q S fuel (listed.setIfInBounds i true) a w) → K' a w) → if Region.wanted o (yielded ops a.tmps) = true then Oper.wp P o a w K' Q else K' (a.put o.dst undef) w)
    (hs : AllReadyH P md ops Q S fuel listed a w rs) : AllReadyH P md ops Q S fuel listed a w (i :: rs) := AllReadyH.cons (drop_atU hl) h hs
end
theorem rg_appendU {o : Oper} {a : Act} {w w2 : World} {K : Act → World → Prop} {Q : Exit → Act → World → Prop} (s x : Operand) (tS tX : TypeId)
    (ho : o.op = .call { callee := .builtin .append, args := #[s, x], argTypes := #[tS, tX] }) (v u r : Value) (hs : a.eval s = v) (hx : a.eval x = u) (hrun : (Builtin.append_ #[tS, tX] o.type #[v, u]).run Tryz.prog w = .ok r w2)
    (h : K (a.put o.dst r) w2) : Oper.wp Tryz.prog o a w K Q := by
  unfold Oper.wp
  simp [execOp, ho, resolve, invoke, builtin, hs, hx, hrun, Result.andThen]
  exact h

end Go.Proofs.YtpgnabmkfkcogaaGreatDoor

namespace Go.Proofs.YtpgnabmkfkcogaaGreatDoor
open Go.RowKit

section
variable {P : Program} {ops : Array Oper} {Q : Exit → Act → World → Prop} {md : Region.Mode} {S : World → Prop}
end

end Go.Proofs.YtpgnabmkfkcogaaGreatDoor

namespace Go.Proofs.YtpgnabmkfkcogaaGreatDoor
open Go.RowKit

set_option maxRecDepth 100000 in
set_option maxHeartbeats 1000000 in
/-- sums.Fix of a table that has a variable: a new list -/
theorem gfix_new (p b v c1 : Nat) (a1 : Option Addr) (t : List Int) (r : Int) (W : World) (hF : InT p b W) (hL : InL W a1 c1 t) (e1 : v ≤ 12) (e2 : t.length = 2 ^ v) (hv : v ≠ 0) (hr1 : -9223372036854775808 ≤ r) (hr2 : r ≤ 9223372036854775807) :
    Calls Tryz.prog 213 #[.pointer (some ⟨b, 0, none⟩), .slice a1 t.length c1, .int .i64 r] W fun e w' => e = .returned (.tuple #[.slice (some ⟨W.heap.size, 0, none⟩) (fixl p t r).length (fixl p t r).length, .nilIface]) ∧ Lst w'.heap.size w' (some ⟨W.heap.size, 0, none⟩) (fixl p t r).length (fixl p t r) ∧ Below W.heap.size W w' := by
  have hl1 := hL.len
  have HI := hid (istable_any t.length c1 a1 W (by omega))
  rw [decide_eq_true ((vrs_iff _).2 ⟨v, e1, e2⟩)] at HI
  have HV := hid (vars_any t.length v c1 a1 W e1 e2 hF.tab)
  have hv2 : ((v : Int) == 0) = false := by simp; omega
  have HX := hid (fixed_any p b c1 a1 t r W W.heap.size hF.h3 hF.hm hF.cell hl1 hL.fit hr1 hr2 hL.lst.row (Nat.le_refl _))
  have HLE := hid (fixl_len p t r)
  obtain ⟨h2, hh2⟩ : ∃ h2, h2 = t.length / 2 := ⟨_, rfl⟩
  rw [← hh2] at HX HLE
  generalize t.length = n at *
  clear hF hL e1 e2 hv hh2
  go_enter Tryz.func213, Tryz.ntmps213
  go_wp2_with fail
  refine HI.out.mono ?_
  rintro e w1 ⟨rfl, rfl⟩
  go_wp2_with fail
  refine HV.out.mono ?_
  rintro e w2 ⟨rfl, rfl⟩
  go_wp2_with fail
  refine HX.out.mono ?_
  rintro e w3 ⟨rfl, hA, hb3⟩
  have HA3 := hid hA
  have HB3 := hid hb3
  clear hA hb3 HX
  go_wp2_with fail
  go_ret2
  rw [HLE.out]
  exact ⟨rfl, HA3.out.lst HLE.out (fun _ _ => rfl) HA3.out.lt, HB3.out⟩

set_option maxRecDepth 100000 in
set_option maxHeartbeats 1000000 in
/-- fixed: a table, its first variables let be some elements -/
theorem gfixed_any (p b n c1 c2 : Nat) (a1 a2 : Option Addr) (t fs : List Int) (w : World) (hIT : InT p b w) (hn : n ≤ 6) (ht : t.length = 2 ^ n) (hk : fs.length ≤ n) (ft : Fits t) (ff : Fits fs) (lt : Lst w.heap.size w a1 c1 t) (lf : RowB w.heap.size w a2 fs) :
    Calls Tryz.prog 161 #[.pointer (some ⟨b, 0, none⟩), .slice a1 t.length c1, .slice a2 fs.length c2] w fun e w' => ∃ a' c', e = .returned (.slice a' (fxs p t (zat fs) fs.length).length c') ∧ Lst w'.heap.size w' a' c' (fxs p t (zat fs) fs.length) ∧ (a' = a1 ∨ ∃ g, a' = some ⟨g, 0, none⟩ ∧ w.heap.size ≤ g) ∧ Below w.heap.size w w' := by
  have HFX : Hid (∀ (k : Nat) (a : Option Addr) (c : Nat) (r : Int) (W : World), k < fs.length → Below w.heap.size w W → Lst W.heap.size W a c (fxs p t (zat fs) k) → -9223372036854775808 ≤ r → r ≤ 9223372036854775807 → Calls Tryz.prog 213 #[.pointer (some ⟨b, 0, none⟩), .slice a (fxs p t (zat fs) k).length c, .int .i64 r] W fun e w' => ∃ c', e = .returned (.tuple #[.slice (some ⟨W.heap.size, 0, none⟩) (fixl p (fxs p t (zat fs) k) r).length c', .nilIface]) ∧ Lst w'.heap.size w' (some ⟨W.heap.size, 0, none⟩) c' (fixl p (fxs p t (zat fs) k) r) ∧ Below W.heap.size W w') := fun k a c r W hkl hW hl h1 h2 => by
    have hlen := fxs_len (p := p) (zat fs) ht k (by omega)
    have hp6 := pow_6 (v := n - k) (by omega)
    refine (gfix_new p b (n - k) c a (fxs p t (zat fs) k) r W (hIT.below hW) ⟨by omega, fxs_fits hIT.h3 hIT.hm _ ft k, hl⟩ (by omega) hlen (by omega) h1 h2).mono ?_
    rintro e w' ⟨h5, h6, h7⟩
    exact ⟨_, h5, h6, h7⟩
  have HLT : Hid (Lst w.heap.size w a1 c1 (fxs p t (zat fs) 0)) := lt
  have HLF := hid lf
  have HFF := hid ff
  have HS : Hid (∀ k, fxs p t (zat fs) (k + 1) = fixl p (fxs p t (zat fs) k) (zat fs k)) := fun k => rfl
  obtain ⟨T, hT⟩ : ∃ T : Nat → List Int, T = fxs p t (zat fs) := ⟨_, rfl⟩
  have hT0 : t = T 0 := by rw [hT]; rfl
  simp only [← hT] at HFX HLT HS ⊢
  rw [show t.length = (T 0).length from by rw [← hT0]]
  obtain ⟨m, hm⟩ : ∃ m, m = fs.length := ⟨_, rfl⟩
  have HM := hid hm
  simp only [← hm] at HFX hk ⊢
  clear lt lf ft ff hT hT0 hm ht
  go_enter Tryz.func161, Tryz.ntmps161
  go_wp2_with fail
  go_loopw [1, 8, 11] (fun tv _ iv wr => ∃ k : Nat, k ≤ m ∧ iv = .int .i64 (k : Int) ∧ ∃ a c, tv = .slice a (T k).length c ∧ Hid (Lst wr.heap.size wr a c (T k) ∧ (a = a1 ∨ ∃ g, a = some ⟨g, 0, none⟩ ∧ w.heap.size ≤ g) ∧ Below w.heap.size w wr)) (fun _ _ iv _ => m - (intOf iv).toNat)
  case atStart => exact ⟨0, by omega, rfl, a1, c1, rfl, HLT.out, Or.inl rfl, Below.refl _ _⟩
  case round =>
    obtain ⟨k, hk', rfl, a, c, rfl, hI⟩ := hrel
    by_cases hlt : k < m
    · have hlt2 : (k : Int) < (m : Int) := by omega
      have hks : IntKind.i64.wrap ((k : Int) + 1) = (k : Int) + 1 := by rw [IntKind.wrap_i64]; omega
      obtain ⟨b0, o0, rfl, hb0, hx0⟩ := HLF.out k (by rw [← HM.out]; exact hlt)
      have hx1 := (hI.out.2.2.cell (p := ⟨b0, o0 + k, none⟩) hb0).trans hx0
      obtain ⟨f1, f2⟩ := HFF.out.all k
      have HX := hid (HFX.out k a c (zat fs k) wr hlt hI.out.2.2 hI.out.1 f1 f2)
      rw [← HS.out k] at HX
      have HB := hid hI.out.2.2
      generalize zat fs k = r at *
      generalize T k = tk at *
      clear hI hx0 f1 f2
      go_wp2_with fail
      refine HX.out.mono ?_
      rintro e w1 ⟨c', rfl, hl1, hb1⟩
      have HE := hid (And.intro hl1 (And.intro (Or.inr ⟨wr.heap.size, rfl, HB.out.size⟩ : (some ⟨wr.heap.size, 0, none⟩ = a1 ∨ ∃ g, (some ⟨wr.heap.size, 0, none⟩ : Option Addr) = some ⟨g, 0, none⟩ ∧ w.heap.size ≤ g)) (HB.out.trans (hb1.mono HB.out.size))))
      clear hl1 hb1
      go_wp2_with fail
      go_roundw
      case rel => exact ⟨k + 1, by omega, by go_num, _, c', rfl, HE.out⟩
      case measure => simp [intOf]; omega
    · obtain rfl : k = m := by omega
      have hlt2 : ¬ (k : Int) < (k : Int) := by omega
      have HE := hid hI.out
      clear hI
      go_wp2_with fail
      go_ret
      exact ⟨a, c, rfl, HE.out⟩

set_option maxRecDepth 100000 in
theorem row_any (x y : Value) (g r : Nat) (w : World) (hr : r ≤ 60) :
    Calls Tryz.prog 251 #[.agg #[x, .int .i64 (r : Int), y], .int .i64 (g : Int)] w fun e w' => e = .returned (.int .i64 ((g / 2 ^ r : Nat) : Int)) ∧ Below w.heap.size w w' := by
  have HB : Hid (Below w.heap.size w (w.alloc (.cells #[x, .int .i64 (r : Int), y] 295))) := (Below.refl _ _).alloc (Nat.le_refl _) _
  have HE : Hid ((g : Int) / 2 ^ r = ((g / 2 ^ r : Nat) : Int)) := by unfold Hid; rw [Int.natCast_ediv]; simp
  go_enter Tryz.func251, Tryz.ntmps251
  go_wp2_with fail
  go_ret
  refine ⟨?_, HB.out⟩
  rw [← HE.out]
  rfl

end Go.Proofs.YtpgnabmkfkcogaaGreatDoor

namespace Go.Proofs.YtpgnabmkfkcogaaGreatDoor
open Go.RowKit

set_option maxRecDepth 100000 in
set_option maxHeartbeats 1000000 in
theorem stands_any (x : Value) (g r c : Nat) (a : Option Addr) (t : List Int) (w : World) (hr : r ≤ 6) (ht : t.length = 2 ^ r) (lt : Lst w.heap.size w a c t) :
    Calls Tryz.prog 248 #[.agg #[x, .int .i64 (r : Int), .slice a t.length c], .int .i64 (g : Int)] w fun e w' => e = .returned (.int .i64 (zat t (g % 2 ^ r))) ∧ Below w.heap.size w w' := by
  obtain ⟨W0, hW0⟩ : ∃ W0, W0 = w.alloc (.cells #[x, .int .i64 (r : Int), .slice a t.length c] 295) := ⟨_, rfl⟩
  obtain ⟨hb0, hs0, hz0⟩ := own_blk hW0
  obtain ⟨j, hj⟩ : ∃ j, j = g % 2 ^ r := ⟨_, rfl⟩
  have hjl : j < t.length := by rw [hj, ht]; exact Nat.mod_lt _ (Nat.two_pow_pos r)
  have hand : bits BinOp.and IntKind.i64 (g : Int) (((2 ^ r : Nat) : Int) - 1) = (j : Int) := by
    rw [andn_i64 r (g : Int) (by omega) _ (by have := Nat.two_pow_pos r; omega), hj]
    simp
  obtain ⟨b0, o0, rfl, hb1, hx0⟩ := lt.row j hjl
  have hx1 := (hb0.cell (p := ⟨b0, o0 + j, none⟩) hb1).trans hx0
  have hp6 := pow_6 hr
  obtain ⟨G, hG⟩ : ∃ G, G = w.heap.size := ⟨_, rfl⟩
  rw [← hG] at hs0
  have c1 : W0.cell? ⟨G, 1, none⟩ = some (.int .i64 (r : Int)) := by simp [World.cell?, hs0]
  have c2 : W0.cell? ⟨G, 2, none⟩ = some (.slice (some ⟨b0, o0, none⟩) t.length c) := by simp [World.cell?, hs0]
  have HB0 := hid hb0
  have HWG := hid hW0
  have HG := hid hG
  have hjl2 : (j : Int) < (t.length : Int) := by omega
  rw [← hj]
  have hX1 : 1 ≤ 2 ^ r := Nat.two_pow_pos r
  have hsh2 : IntKind.i64.wrap (2 ^ r) = ((2 ^ r : Nat) : Int) := by
    have e : (2 : Int) ^ r = ((2 ^ r : Nat) : Int) := by simp
    rw [e, IntKind.wrap_i64]
    omega
  have hxs : IntKind.i64.wrap (((2 ^ r : Nat) : Int) - 1) = ((2 ^ r : Nat) : Int) - 1 := by rw [IntKind.wrap_i64]; omega
  generalize 2 ^ r = X at *
  generalize zat t j = E at *
  generalize t.length = N at *
  clear hj hjl lt hs0 hz0 hb0 hW0 hG hx0 ht
  go_enter Tryz.func248, Tryz.ntmps248
  go_wp2_with fail
  rw [← HWG.out, ← HG.out]
  clear HWG
  refine wp_region_held_drew (S := fun W => W.cell? ⟨G, 1, none⟩ = some (.int .i64 (r : Int)) ∧ W.cell? ⟨G, 2, none⟩ = some (.slice (some ⟨b0, o0, none⟩) N c) ∧ W.cell? ⟨b0, o0 + j, none⟩ = some (.int .i64 E)) (by kernel_rfl) (⟨c1, c2, hx1⟩) (fun hHeld => ?_)
  refine wpAnyH_takeU (i := 0) (v := .pointer (some ⟨G, 2, none⟩)) rfl (by kernel_rfl) (by kernel_rfl) (by kernel_rfl) (fun _ _ _ h => h) (by rfl) (fun W hC => by go_simp) hHeld ?_
  simp only [Act.put, List.setIfInBounds_toArray, List.set_cons_zero, List.set_cons_succ]
  refine wpAnyH_takeU (i := 1) (v := .slice (some ⟨b0, o0, none⟩) N c) rfl (by kernel_rfl) (by kernel_rfl) (by kernel_rfl) (fun _ _ _ h => h) (by rfl) (fun W hC => by (obtain ⟨x1, x2, x3⟩ := hC); go_simp) hHeld ?_
  simp only [Act.put, List.setIfInBounds_toArray, List.set_cons_zero, List.set_cons_succ]
  refine wpAnyH_takeU (i := 2) (v := .int .i64 (g : Int)) rfl (by kernel_rfl) (by kernel_rfl) (by kernel_rfl) (fun _ _ _ h => h) (by rfl) (fun W hC => by go_simp) hHeld ?_
  simp only [Act.put, List.setIfInBounds_toArray, List.set_cons_zero, List.set_cons_succ]
  refine wpAnyH_takeU (i := 3) (v := .pointer (some ⟨G, 1, none⟩)) rfl (by kernel_rfl) (by kernel_rfl) (by kernel_rfl) (fun _ _ _ h => h) (by rfl) (fun W hC => by go_simp) hHeld ?_
  simp only [Act.put, List.setIfInBounds_toArray, List.set_cons_zero, List.set_cons_succ]
  refine wpAnyH_takeU (i := 4) (v := .int .i64 (r : Int)) rfl (by kernel_rfl) (by kernel_rfl) (by kernel_rfl) (fun _ _ _ h => h) (by rfl) (fun W hC => by (obtain ⟨x1, x2, x3⟩ := hC); go_simp) hHeld ?_
  simp only [Act.put, List.setIfInBounds_toArray, List.set_cons_zero, List.set_cons_succ]
  refine wpAnyH_takeU (i := 5) (v := .int .i64 (X : Int)) rfl (by kernel_rfl) (by kernel_rfl) (by kernel_rfl) (fun _ _ _ h => h) (by rfl) (fun W hC => by go_simp) hHeld ?_
  simp only [Act.put, List.setIfInBounds_toArray, List.set_cons_zero, List.set_cons_succ]
  refine wpAnyH_takeU (i := 6) (v := .int .i64 ((X : Int) - 1)) rfl (by kernel_rfl) (by kernel_rfl) (by kernel_rfl) (fun _ _ _ h => h) (by rfl) (fun W hC => by go_simp) hHeld ?_
  simp only [Act.put, List.setIfInBounds_toArray, List.set_cons_zero, List.set_cons_succ]
  refine wpAnyH_takeU (i := 7) (v := .int .i64 (j : Int)) rfl (by kernel_rfl) (by kernel_rfl) (by kernel_rfl) (fun _ _ _ h => h) (by rfl) (fun W hC => by go_simp) hHeld ?_
  simp only [Act.put, List.setIfInBounds_toArray, List.set_cons_zero, List.set_cons_succ]
  refine wpAnyH_takeU (i := 8) (v := .pointer (some ⟨b0, o0 + j, none⟩)) rfl (by kernel_rfl) (by kernel_rfl) (by kernel_rfl) (fun _ _ _ h => h) (by rfl) (fun W hC => by go_simp) hHeld ?_
  simp only [Act.put, List.setIfInBounds_toArray, List.set_cons_zero, List.set_cons_succ]
  refine wpAnyH_takeU (i := 9) (v := .int .i64 E) rfl (by kernel_rfl) (by kernel_rfl) (by kernel_rfl) (fun _ _ _ h => h) (by rfl) (fun W hC => by (obtain ⟨x1, x2, x3⟩ := hC); go_simp) hHeld ?_
  simp only [Act.put, List.setIfInBounds_toArray, List.set_cons_zero, List.set_cons_succ]
  refine wpAnyH_ready (rs := [10]) (by kernel_rfl) (by simp) ?_
  refine AllReadyH.consU rfl (fun K' hK' => ?_) AllReadyH.nil
  go_simp
  refine hK'.out _ _ (hHeld) (fun hHeld => ?_)
  clear hK' K'
  refine wpAnyH_done (by kernel_rfl) ?_ _
  go_wp2_with fail
  go_ret
  exact ⟨rfl, HB0.out.drew⟩

end Go.Proofs.YtpgnabmkfkcogaaGreatDoor

namespace Go.Proofs.YtpgnabmkfkcogaaGreatDoor
open Go.RowKit

set_option maxRecDepth 100000 in
set_option maxHeartbeats 2000000 in
theorem sideOf_any (p b n c1 c2 : Nat) (y : Value) (a1 a2 : Option Addr) (t fs : List Int) (w : World) (hIT : InT p b w) (hn : n ≤ 6) (ht : t.length = 2 ^ n) (hk : fs.length ≤ n) (ft : Fits t) (ff : Fits fs) (lt : Lst w.heap.size w a1 c1 t) (lf : RowB w.heap.size w a2 fs) :
    Calls Tryz.prog 247 #[.agg #[.pointer (some ⟨b, 0, none⟩), y, .int .i64 (n : Int)], .slice a1 t.length c1, .slice a2 fs.length c2] w fun e w' => ∃ a' c', e = .returned (.agg #[.slice a2 fs.length c2, .int .i64 ((n - fs.length : Nat) : Int), .slice a' (fxs p t (zat fs) fs.length).length c']) ∧ Lst w'.heap.size w' a' c' (fxs p t (zat fs) fs.length) ∧ (a' = a1 ∨ ∃ g, a' = some ⟨g, 0, none⟩ ∧ w.heap.size ≤ g) ∧ Below w.heap.size w w' := by
  have hmx : Tryz.prog.follows .mixedOrders = true := by kernel_rfl
  obtain ⟨W0, hW0⟩ : ∃ W0, W0 = w.alloc (.cells #[.pointer (some ⟨b, 0, none⟩), y, .int .i64 (n : Int)] 149) := ⟨_, rfl⟩
  obtain ⟨hb0, hs0, hz0⟩ := own_blk hW0
  obtain ⟨W1, hW1⟩ : ∃ W1, W1 = W0.alloc (.cells #[.slice none 0 0, .int .i64 0, .slice none 0 0] 295) := ⟨_, rfl⟩
  obtain ⟨hb1, hs1, hz1⟩ := own_blk hW1
  obtain ⟨G, hG⟩ : ∃ G, G = w.heap.size := ⟨_, rfl⟩
  obtain ⟨R, hR⟩ : ∃ R, R = W0.heap.size := ⟨_, rfl⟩
  rw [← hG] at hs0
  rw [← hR] at hs1
  have hGR : R = w.heap.size + 1 := by omega
  have hs0' := (hb1.block G (by omega)).trans hs0
  have hB1 : Below w.heap.size w W1 := hb0.trans (hb1.mono hb0.size)
  have HB1 := hid hB1
  have HSB : Hid (∀ W, Below W1.heap.size W1 W → W.cell? ⟨G, 0, none⟩ = some (.pointer (some ⟨b, 0, none⟩)) ∧ W.cell? ⟨G, 2, none⟩ = some (.int .i64 (n : Int))) := fun W hW => by
    have e1 := (hW.block G (by omega)).trans hs0'
    exact ⟨by simp [World.cell?, e1], by simp [World.cell?, e1]⟩
  have HRB : Hid (∀ W, Below W1.heap.size W1 W → W.heap[R]? = some (.cells #[.slice none 0 0, .int .i64 0, .slice none 0 0] 295 (0, 0))) := fun W hW => (hW.block R (by omega)).trans hs1
  have HFX : Hid (∀ W, Below W1.heap.size W1 W → Calls Tryz.prog 161 #[.pointer (some ⟨b, 0, none⟩), .slice a1 t.length c1, .slice a2 fs.length c2] W fun e w' => ∃ a' c', e = .returned (.slice a' (fxs p t (zat fs) fs.length).length c') ∧ Lst w'.heap.size w' a' c' (fxs p t (zat fs) fs.length) ∧ (a' = a1 ∨ ∃ g, a' = some ⟨g, 0, none⟩ ∧ W.heap.size ≤ g) ∧ Below W.heap.size W w') := fun W hW => by
    have hw := hB1.trans (hW.mono hB1.size)
    exact gfixed_any p b n c1 c2 a1 a2 t fs W (hIT.below hw) hn ht hk ft ff ((lt.below hw).mono hw.size) ((lf.below hw).mono hw.size)
  have h0 : 0 < t.length := by rw [ht]; exact Nat.two_pow_pos n
  have HEN : Hid (∀ (W : World) (a' : Option Addr) (c' : Nat) (cs : Array Value), Below W1.heap.size W1 W → Lst W.heap.size W a' c' (fxs p t (zat fs) fs.length) → (a' = a1 ∨ ∃ g, a' = some ⟨g, 0, none⟩ ∧ W1.drew.heap.size ≤ g) → Lst (W.setRow R cs).heap.size (W.setRow R cs) a' c' (fxs p t (zat fs) fs.length) ∧ (a' = a1 ∨ ∃ g, a' = some ⟨g, 0, none⟩ ∧ w.heap.size ≤ g) ∧ Below w.heap.size w (W.setRow R cs)) := fun W a' c' cs hW hl hor => by
    have hbw : Below w.heap.size w W := hB1.trans (hW.mono hB1.size)
    have hbs := below_setRow hbw (show w.heap.size ≤ R by omega) cs
    refine ⟨⟨fun q hq => ?_, hl.room, hl.nil⟩, hor.imp id (fun ⟨g, h, hg⟩ => ⟨g, h, Nat.le_trans hB1.size hg⟩), hbs⟩
    obtain ⟨b', o', e1, e2, e4⟩ := hl.row q hq
    have hne : b' ≠ R := by
      rcases hor with h | ⟨g, h, hg⟩
      · obtain ⟨b2, o2, e5, e6, _⟩ := lt.row 0 h0
        rw [h, e5] at e1
        injection e1 with e1
        injection e1 with e7 _ _
        omega
      · rw [h] at e1
        injection e1 with e1
        injection e1 with e7 _ _
        have : W1.drew.heap.size = W1.heap.size := rfl
        omega
    refine ⟨b', o', e1, by simpa [World.setRow] using e2, ?_⟩
    exact (World.cell?_of_block (w := W) (a := ⟨b', o' + q, none⟩) (setRow_other W R b' cs hne)).trans e4
  have HSR : Hid (∀ (W : World) (cs : Array Value), (W.cell? ⟨G, 0, none⟩ = some (.pointer (some ⟨b, 0, none⟩)) ∧ W.cell? ⟨G, 2, none⟩ = some (.int .i64 (n : Int))) → (W.setRow R cs).cell? ⟨G, 0, none⟩ = some (.pointer (some ⟨b, 0, none⟩)) ∧ (W.setRow R cs).cell? ⟨G, 2, none⟩ = some (.int .i64 (n : Int))) := fun W cs h => by
    have e := setRow_other W R G cs (by omega)
    exact ⟨(World.cell?_of_block (w := W) (a := ⟨G, 0, none⟩) e).trans h.1, (World.cell?_of_block (w := W) (a := ⟨G, 2, none⟩) e).trans h.2⟩
  have HBD : Hid (Below W1.heap.size W1 W1.drew) := (Below.refl _ _).drew
  obtain ⟨m, hmm⟩ : ∃ m, m = n - fs.length := ⟨_, rfl⟩
  have hnk : (n : Int) - (fs.length : Int) = (m : Int) := by omega
  have hms : IntKind.i64.wrap (m : Int) = (m : Int) := by rw [IntKind.wrap_i64]; omega
  rw [← hmm]
  generalize fxs p t (zat fs) fs.length = Y at *
  generalize Y.length = M at *
  generalize t.length = N at *
  generalize fs.length = k at *
  have HWG : Hid (W1 = (w.alloc (.cells #[.pointer (some ⟨b, 0, none⟩), y, .int .i64 (n : Int)] 149)).alloc (.cells #[.slice none 0 0, .int .i64 0, .slice none 0 0] 295)) := by unfold Hid; rw [hW1, hW0]
  have HG := hid hG
  have HR := hid hGR
  clear hIT ht ft ff lt lf hb0 hb1 hs0 hs1 hz0 hz1 hW0 hW1 hG hR hGR hs0' hB1 hmm hk h0
  go_enter Tryz.func247, Tryz.ntmps247
  go_wp2_with fail
  rw [← HWG.out, ← HR.out, ← HG.out]
  clear HWG
  refine wp_region_held_drew (S := fun W => W.cell? ⟨G, 0, none⟩ = some (.pointer (some ⟨b, 0, none⟩)) ∧ W.cell? ⟨G, 2, none⟩ = some (.int .i64 (n : Int))) (by kernel_rfl) (HSB.out _ HBD.out) (fun hHeld => ?_)
  refine wpAnyH_takeU (i := 0) (v := .slice a2 k c2) rfl (by kernel_rfl) (by kernel_rfl) (by kernel_rfl) (fun _ _ _ h => h) (by rfl) (fun W hC => by go_simp) hHeld ?_
  simp only [Act.put, List.setIfInBounds_toArray, List.set_cons_zero, List.set_cons_succ]
  refine wpAnyH_takeU (i := 1) (v := .pointer (some ⟨G, 2, none⟩)) rfl (by kernel_rfl) (by kernel_rfl) (by kernel_rfl) (fun _ _ _ h => h) (by rfl) (fun W hC => by go_simp) hHeld ?_
  simp only [Act.put, List.setIfInBounds_toArray, List.set_cons_zero, List.set_cons_succ]
  refine wpAnyH_takeU (i := 2) (v := .int .i64 (n : Int)) rfl (by kernel_rfl) (by kernel_rfl) (by kernel_rfl) (fun _ _ _ h => h) (by rfl) (fun W hC => by (obtain ⟨x1, x2⟩ := hC); go_simp) hHeld ?_
  simp only [Act.put, List.setIfInBounds_toArray, List.set_cons_zero, List.set_cons_succ]
  refine wpAnyH_takeU (i := 3) (v := .slice a2 k c2) rfl (by kernel_rfl) (by kernel_rfl) (by kernel_rfl) (fun _ _ _ h => h) (by rfl) (fun W hC => by go_simp) hHeld ?_
  simp only [Act.put, List.setIfInBounds_toArray, List.set_cons_zero, List.set_cons_succ]
  refine wpAnyH_takeU (i := 4) (v := .int .i64 (k : Int)) rfl (by kernel_rfl) (by kernel_rfl) (by kernel_rfl) (fun _ _ _ h => h) (by rfl) (fun W hC => by go_simp) hHeld ?_
  simp only [Act.put, List.setIfInBounds_toArray, List.set_cons_zero, List.set_cons_succ]
  refine wpAnyH_takeU (i := 5) (v := .int .i64 (m : Int)) rfl (by kernel_rfl) (by kernel_rfl) (by kernel_rfl) (fun _ _ _ h => h) (by rfl) (fun W hC => by go_simp) hHeld ?_
  simp only [Act.put, List.setIfInBounds_toArray, List.set_cons_zero, List.set_cons_succ]
  refine wpAnyH_takeU (i := 6) (v := .pointer (some ⟨G, 0, none⟩)) rfl (by kernel_rfl) (by kernel_rfl) (by kernel_rfl) (fun _ _ _ h => h) (by rfl) (fun W hC => by go_simp) hHeld ?_
  simp only [Act.put, List.setIfInBounds_toArray, List.set_cons_zero, List.set_cons_succ]
  refine wpAnyH_takeU (i := 7) (v := .pointer (some ⟨b, 0, none⟩)) rfl (by kernel_rfl) (by kernel_rfl) (by kernel_rfl) (fun _ _ _ h => h) (by rfl) (fun W hC => by (obtain ⟨x1, x2⟩ := hC); go_simp) hHeld ?_
  simp only [Act.put, List.setIfInBounds_toArray, List.set_cons_zero, List.set_cons_succ]
  refine wpAnyH_takeU (i := 8) (v := .slice a1 N c1) rfl (by kernel_rfl) (by kernel_rfl) (by kernel_rfl) (fun _ _ _ h => h) (by rfl) (fun W hC => by go_simp) hHeld ?_
  simp only [Act.put, List.setIfInBounds_toArray, List.set_cons_zero, List.set_cons_succ]
  refine wpAnyH_takeU (i := 9) (v := .slice a2 k c2) rfl (by kernel_rfl) (by kernel_rfl) (by kernel_rfl) (fun _ _ _ h => h) (by rfl) (fun W hC => by go_simp) hHeld ?_
  simp only [Act.put, List.setIfInBounds_toArray, List.set_cons_zero, List.set_cons_succ]
  refine wpAnyH_ready (rs := [10]) (by kernel_rfl) (by simp) ?_
  refine AllReadyH.consU rfl (fun K' hK' => ?_) AllReadyH.nil
  go_simp
  refine (HFX.out _ HBD.out).mono ?_
  rintro e w3 ⟨a', c', rfl, hl3, ho3, hb3⟩
  have hB3 := HBD.out.trans hb3
  have hS3 := HSB.out w3 hB3
  have HRR := hid (HRB.out w3 hB3)
  have HE3 := hid (fun cs => HEN.out w3 a' c' cs hB3 hl3 ho3)
  have HS4 := hid (fun cs => HSR.out w3 cs hS3)
  clear hl3 hb3 ho3
  refine hK'.out _ _ (hS3) (fun hHeld => ?_)
  clear hK' K'
  refine wpAnyH_takeU (i := 11) (v := .agg #[.slice a2 k c2, .int .i64 (m : Int), .slice a' M c']) rfl (by kernel_rfl) (by kernel_rfl) (by kernel_rfl) (fun _ _ _ h => h) (by rfl) (fun W hC => by go_simp) hHeld ?_
  simp only [Act.put, List.setIfInBounds_toArray, List.set_cons_zero, List.set_cons_succ]
  refine wpAnyH_ready (rs := [12]) (by kernel_rfl) (by simp) ?_
  refine AllReadyH.consU rfl (fun K' hK' => ?_) AllReadyH.nil
  rw [if_pos (by rfl)]
  refine wp_store_row 295 _ _ rfl R #[.slice a2 k c2, .int .i64 (m : Int), .slice a' M c'] rfl rfl _ _ HRR.out (by kernel_rfl) rfl (by simp [Value.oneCell']) ?_
  refine hK'.out _ _ (HS4.out _) (fun hHeld => ?_)
  clear hK' K'
  refine wpAnyH_done (by kernel_rfl) ?_ _
  go_wp2_with fail
  refine bodyPost_ret (results_cell_row rfl _ _ R 295 #[.slice a2 k c2, .int .i64 (m : Int), .slice a' M c'] (0, 0) _ rfl (setRow_heap _ _ _ _ _ _ HRR.out) Tryz.underlying295 rfl (by kernel_rfl)) rfl ?_
  exact ⟨a', c', rfl, HE3.out _⟩

end Go.Proofs.YtpgnabmkfkcogaaGreatDoor

namespace Go.Proofs.YtpgnabmkfkcogaaGreatDoor
open Go

section
variable {P : Program} {ops : Array Oper} {Q : Exit → Act → World → Prop} {md : Region.Mode}

theorem count_unset {L : Array Bool} {i : Nat} (h : L.getD i true = false) : (L.setIfInBounds i true).toList.count false < L.toList.count false := by
  have hi : i < L.size := by
    rcases Nat.lt_or_ge i L.size with g | g
    · exact g
    · simp [Array.getElem?_eq_none g] at h
  have hv : L.toList[i]'(by simpa using hi) = false := by simpa [hi] using h
  rw [Array.toList_setIfInBounds]
  have hc := List.count_set (a := true) (b := false) (l := L.toList) (i := i) (by simpa using hi)
  rw [hv] at hc
  have hpos : 0 < L.toList.count false := List.count_pos_iff.2 (by rw [← hv]; exact List.getElem_mem _)
  simp only [show ((false : Bool) == false) = true from rfl, show ((true : Bool) == false) = false from rfl, if_true, Bool.false_eq_true, if_false] at hc
  omega

theorem wpAny_inv (Inv : Array Bool → Act → World → Prop)
    (hstep : ∀ L a w, Inv L a w → ∀ i ∈ Region.ready md ops L, wpOp P ops Q i (fun a' w' => Inv (L.setIfInBounds i true) a' w') a w)
    (hdone : ∀ L a w, Inv L a w → Region.ready md ops L = [] → Q .normal a w) :
    ∀ (fuel : Nat) (L : Array Bool) (a : Act) (w : World), L.toList.count false ≤ fuel → Inv L a w → wpAny P md ops Q fuel L a w := by
  intro fuel
  induction fuel with
  | zero =>
    intro L a w hc hI
    have hr : Region.ready md ops L = [] := by
      rcases hrr : Region.ready md ops L with _ | ⟨i, t⟩
      · rfl
      · have hi : i ∈ Region.ready md ops L := by rw [hrr]; simp
        have := count_unset (mem_ready.1 hi).1
        omega
    exact ⟨hr, hdone L a w hI hr⟩
  | succ fuel ih =>
    intro L a w hc hI
    refine ⟨fun h => hdone L a w hI h, fun i hi => wpOp_mono (fun a' w' h => ih _ _ _ ?_ h) (hstep L a w hI i hi)⟩
    have := count_unset (mem_ready.1 hi).1
    omega

/-- each waits for earlier ones alone -/
def lexB (md : Region.Mode) (ops : Array Oper) : Bool := (List.range ops.size).all fun k => match ops[k]? with | some o => o.after.all fun e => !(Region.binds md e) || decide (e.on < k) | none => true

theorem all_listed {L : Array Bool} (hl : lexB md ops = true) (hsz : L.size = ops.size) (hr : Region.ready md ops L = []) : ∀ k, k < ops.size → L.getD k false = true := by
  intro k
  induction k using Nat.strongRecOn with
  | _ k ih =>
    intro hk
    have ho : ops[k]? = some ops[k] := by simp [hk]
    rcases hx : L.getD k false with _ | _
    · exfalso
      have hk2 : k < L.size := by omega
      have hmem : k ∈ Region.ready md ops L := by
        refine mem_ready.2 ⟨by simp [hk2] at hx ⊢; exact hx, ops[k], ho, fun e he hb => ?_⟩
        have := List.all_eq_true.1 hl k (List.mem_range.2 hk)
        rw [ho] at this
        have := Array.all_eq_true'.1 this e he
        rw [hb] at this
        simp at this
        exact ih e.on this (by omega)
      rw [hr] at hmem
      cases hmem
    · rfl

theorem unlisted_of_ready {L : Array Bool} {i : Nat} (h : i ∈ Region.ready md ops L) : L.getD i false = false := by
  have h0 := (mem_ready.1 h).1
  rcases Nat.lt_or_ge i L.size with h' | h'
  · simp [h'] at h0 ⊢; exact h0
  · simp [Array.getElem?_eq_none h']
theorem lt_of_ready {L : Array Bool} {i : Nat} (h : i ∈ Region.ready md ops L) : i < ops.size := by
  obtain ⟨_, o, ho, _⟩ := mem_ready.1 h
  exact (Array.getElem?_eq_some_iff.1 ho).1
theorem edges_of_ready {L : Array Bool} {i : Nat} (h : i ∈ Region.ready md ops L) : ∀ o, ops[i]? = some o → ∀ e ∈ o.after, Region.binds md e = true → L.getD e.on false = true := fun o ho e he hb => by
  obtain ⟨_, o', ho', hall⟩ := mem_ready.1 h
  rw [ho'] at ho
  obtain rfl := Option.some.inj ho
  exact hall e he hb
/-- what one that may come up waits for has come up -/
theorem dep_of_ready {L : Array Bool} {i k : Nat} (hcl : Cl md ops L) (h : i ∈ Region.ready md ops L) (hd : depB md ops 4 i k = true) : L.getD k false = true := dep_listed hcl 4 i hd (edges_of_ready h)

theorem wpAny_invC (Inv : Array Bool → Act → World → Prop)
    (hstep : ∀ L a w, Cl md ops L → Inv L a w → ∀ i ∈ Region.ready md ops L, wpOp P ops Q i (fun a' w' => Inv (L.setIfInBounds i true) a' w') a w)
    (hdone : ∀ L a w, (∀ k, k < ops.size → L.getD k false = true) → Inv L a w → Q .normal a w) (hlex : lexB md ops = true) (a : Act) (w : World)
    (hI : Inv (Array.replicate ops.size false) a w) : wpAny P md ops Q ops.size (Array.replicate ops.size false) a w := by
  refine wpAny_inv (fun L a w => Cl md ops L ∧ L.size = ops.size ∧ Inv L a w) ?_ ?_ _ _ _ _ ?_ ⟨?_, by simp, hI⟩
  · intro L a w ⟨h1, h2, h4⟩ i hi
    exact wpOp_mono (fun a' w' h => ⟨h1.set (edges_of_ready hi), by simpa using h2, h⟩) (hstep L a w h1 h4 i hi)
  · intro L a w ⟨h1, h2, h4⟩ hr
    exact hdone L a w (all_listed hlex h2 hr) h4
  · simp
  · intro k o hk hl
    rcases Nat.lt_or_ge k ops.size with g | g
    · simp [g] at hl
    · simp [Array.getElem?_eq_none g] at hk

/-- places and what they hold: one more -/
def upd' (σ : Nat → Value) (i : Nat) (v : Value) : Nat → Value := fun k => if k = i then v else σ k

/-- each that has come up holds what is told of it -/
def Told (n : Nat) (F : World → Nat → Value → Prop) (L : Array Bool) (w : World) (σ : Nat → Value) : Prop := ∀ k, k < n → L.getD k false = true → F w k (σ k)

theorem Told.one {n : Nat} {F : World → Nat → Value → Prop} {L : Array Bool} {w w' : World} {σ : Nat → Value} (h : Told n F L w σ) {i : Nat} {v : Value} (hm : ∀ k u, F w k u → F w' k u) (hv : F w' i v) : Told n F (L.setIfInBounds i true) w' (upd' σ i v) := fun k hk hl => by
  unfold upd'
  by_cases e : k = i
  · rw [if_pos e, e]; exact hv
  · rw [if_neg e]
    refine hm _ _ (h k hk ?_)
    simp only [Array.getD_eq_getD_getElem?] at *
    rwa [Array.getElem?_setIfInBounds_ne (Ne.symm e)] at hl

/-- what a region keeps whose one store comes last -/
structure KeepS (n : Nat) (F : World → Nat → Value → Prop) (Fin : World → (Nat → Value) → Prop) (W0 : World) (gA : (Nat → Value) → Act) (L : Array Bool) (a : Act) (w : World) : Prop where
  below : RowKit.Below W0.heap.size W0 w
  told : ∃ σ, a = gA σ ∧ (L.getD n false = false → Told n F L w σ) ∧ (L.getD n false = true → Fin w σ)

theorem getD_set_other {L : Array Bool} {i k : Nat} (h : i ≠ k) : (L.setIfInBounds i true).getD k false = L.getD k false := by
  simp only [Array.getD_eq_getD_getElem?]
  rw [Array.getElem?_setIfInBounds_ne h]

theorem KeepS.next {n : Nat} {F : World → Nat → Value → Prop} {Fin : World → (Nat → Value) → Prop} {W0 : World} {gA : (Nat → Value) → Act} {L : Array Bool} {w w' : World} {σ : Nat → Value} {i : Nat} {v : Value} {a' : Act}
    (hb : RowKit.Below W0.heap.size W0 w') (hn : L.getD n false = false) (hi : i ≠ n) (ht : Told n F L w σ) (hm : ∀ k u, F w k u → F w' k u) (hv : F w' i v) (ha : a' = gA (upd' σ i v)) : KeepS n F Fin W0 gA (L.setIfInBounds i true) a' w' :=
  ⟨hb, upd' σ i v, ha, fun _ => ht.one hm hv, fun h => by rw [getD_set_other hi, hn] at h; cases h⟩
end
end Go.Proofs.YtpgnabmkfkcogaaGreatDoor
