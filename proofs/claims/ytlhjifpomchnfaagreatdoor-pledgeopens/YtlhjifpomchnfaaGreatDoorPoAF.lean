
import Derived.Test.YtlhjifpomchnfaaGreatDoorTrgs
import Derived.Test.YtlhjifpomchnfaaGreatDoorHeldS
import Derived.Test.YtlhjifpomchnfaaGreatDoorTres
set_option maxRecDepth 1000000
set_option maxHeartbeats 8000000
namespace Go.Proofs.YtlhjifpomchnfaaGreatDoor
open Go.RowKit
def gcsT (l : List (Nat × Nat)) : List Value := l.flatMap (fun g => [Value.int .i64 (g.1 : Int), Value.int .i64 (g.2 : Int)])
theorem gcsT_len (l : List (Nat × Nat)) : (gcsT l).length = l.length * 2 := by
 induction l with
 | nil => rfl
 | cons g l ih => simp only [gcsT, List.flatMap_cons, List.length_append, List.length_cons, List.length_nil] at *; omega
theorem gcsT_append (l l' : List (Nat × Nat)) : gcsT (l ++ l') = gcsT l ++ gcsT l' := by simp [gcsT]
theorem gcsT_one (l : List (Nat × Nat)) : ∀ u ∈ gcsT l, u.oneCell' = true := fun u hu => by
 obtain ⟨g, _, hg⟩ := List.mem_flatMap.1 hu
 simp at hg
 rcases hg with rfl | rfl <;> rfl
def OwnG (base : Nat) (w : World) (v : Value) (l : List (Nat × Nat)) : Prop := w.ownsRow base 201 2 v l.length (gcsT l)
theorem OwnG.nil (base : Nat) (w : World) : OwnG base w (.slice none 0 0) [] := World.ownsRow_nil _ _ _ _
theorem OwnG.keep {base : Nat} {w w' : World} {v : Value} {l : List (Nat × Nat)} (h : OwnG base w v l) (e : Below w.heap.size w w') : OwnG base w' v l := by
 refine World.ownsRow.kept h (w' := w') (row := none) ⟨e.os, e.tape, e.output, e.size, fun k hk _ => e.block k hk⟩ ?_
 cases v.ownBlock with
 | none => exact .inl rfl
 | some k => exact .inr (by simp)
theorem OwnG.mono {base base' : Nat} {w : World} {v : Value} {l : List (Nat × Nat)} (h : OwnG base w v l) (e : base' <= base) : OwnG base' w v l := World.ownsRow.mono h e
theorem run_appG (W : World) (base : Nat) (v v2 : Value) (l1 l2 : List (Nat × Nat)) (h1 : OwnG base W v l1) (h2 : OwnG base W v2 l2) (hlen : l1.length + l2.length <= 2000000) (hbase : base <= W.heap.size) :
  ∃ v' w', (Builtin.append_ #[210, 210] 210 #[v, v2]).run Tryz.prog W = .ok v' w' /\ OwnG base w' v' (l1 ++ l2) /\ Below base W w' := by
 have hinf : (Tryz.prog.info? 201).map (fun i => (i.zero, i.size, i.bytes)) = some (some (.agg #[.int .i64 0, .int .i64 0]), 2, 16) := by kernel_rfl
 obtain ⟨i0, hi, hz0, hz1, hz2⟩ := info_parts hinf
 have h1' : W.ownsRow base 201 2 v l1.length (gcsT l1) := h1
 rcases h2.2 with ⟨rfl, h0⟩ | ⟨g, cap, cur, rfl, hb, hg, hn, hm, hsz, ht⟩
 ·have hl2 : l2 = [] := List.length_eq_zero_iff.1 h0
  refine ⟨v, W, run_append_owned_none (P := Tryz.prog) (w := W) base 210 210 201 i0 2 Tryz.underlying210 hi v l1.length (gcsT l1) h1', ?_, Below.refl _ _⟩
  rw [hl2, List.append_nil]
  exact h1
 ·obtain ⟨v', w2, hr, hown2, hgrow, _⟩ := run_append_own (P := Tryz.prog) W base 210 210 201 i0 (.agg #[.int .i64 0, .int .i64 0]) 2 16 Tryz.underlying210 hi hz0 hz1 hz2 rfl (by decide) v l1.length (gcsT l1) h1' ⟨g, 0, none⟩ l2.length cap (gcsT l2) (gcsT_len l2) (by
   intro j u hu
   have hj : j < l2.length * 2 := by
    rw [<- gcsT_len]
    exact (List.getElem?_eq_some_iff.1 hu).1
   have hadd : (⟨g, 0, none⟩ : Addr).add j = ⟨g, 0 + j, none⟩ := by unfold Addr.add; split <;> simp_all
   rw [hadd, Nat.zero_add]
   unfold World.cell?
   rw [show W.heap[(⟨g, j, none⟩ : Addr).block]? = some (.cells cur 201 (0, 0)) from hg]
   show cur[j]? = some u
   rw [<- hu, <- ht, List.getElem?_take, if_pos hj]
   simp) (gcsT_one l2) (by unfold maxLen; omega) (by omega) hbase
  refine ⟨v', w2, hr, ?_, (Below.refl base W).grown hgrow hbase (fun k hk => (World.ownsRow.lt h1' k hk).1)⟩
  show w2.ownsRow base 201 2 v' (l1 ++ l2).length (gcsT (l1 ++ l2))
  rw [List.length_append, gcsT_append]
  exact hown2
theorem wp_append_run {o : Oper} {act : Act} {K : Act -> World -> Prop} {Q : Exit -> Act -> World -> Prop} {W : World} (s x : Operand) (t ty : TypeId) (ho : o.op = .call { callee := .builtin .append, args := #[s, x], argTypes := #[t, t] }) (hty : o.type = ty) (v v2 v' : Value) (w' : World)
  (hr : (Builtin.append_ #[t, t] ty #[v, v2]).run Tryz.prog W = .ok v' w') (hs : act.eval s = v) (hx : act.eval x = v2) (h : K (act.put o.dst v') w') : o.wp Tryz.prog act W K Q := by
 subst hty
 unfold Oper.wp execOp
 simp only [ho, resolve, invoke, builtin, Sem.run_bind, Sem.run_pure, Result.andThen_ok, List.map_toArray, List.map_cons, List.map_nil, hs, hx, hr]
 exact h
theorem seg_count {ps : List Int} {a b m : Int} (h2 : m <= b) : (seg ps a b).countP (fun x => decide (x < m)) = (seg ps a m).length := by
 rw [List.countP_eq_length_filter, seg_left ps h2]
theorem hidden_any (ps : List Int) (hA : Asc ps) : ∀ (k a c : Nat), 1 <= c -> c <= k -> a + c <= 1000000 -> ∀ (cap : Nat) (av : Option Addr) (w : World), Lst w.heap.size w av cap (seg ps (a : Int) ((a : Int) + (c : Int))) ->
  Calls Tryz.prog 161 #[gk a (a + c), .slice av (seg ps (a : Int) ((a : Int) + (c : Int))).length cap] w fun e w' => ∃ v, e = .returned v /\ OwnG w.heap.size w' v (hd2 ps k a c) /\ Below w.heap.size w w' := by
 intro k
 induction k with
 | zero => intro a c h1 h2; omega
 | succ k ih =>
  intro a c h1 h2 h3 cap av w hl
  have HIH := hid ih
  have HA := hid hA
  have HL := hid hl
  have hlen := seg_le hA (a : Int) c
  obtain ⟨n, hn⟩ := exE ((seg ps (a : Int) ((a : Int) + (c : Int))).length)
  rw [<- hn] at hlen ⊢
  have HN := hid hn
  obtain ⟨b, hb⟩ := exE (a + c)
  rw [<- hb]
  have HB := hid hb
  have hsub : (b : Int) - (a : Int) = (c : Int) := by omega
  clear ih hl hA
  unfold gk
  by_cases hn0 : n = 0
  ·have e0 : ((n : Int) == 0) = true := by rw [beq_iff_eq]; omega
   have HD : Hid (hd2 ps (k + 1) a c = [(a, b)]) := by unfold Hid; rw [hb]; exact hd2_none (seg_nil.1 (by omega))
   clear hn hb
   go_enter Tryz.func161, Tryz.ntmps161
   go_wp2_with fail
   go_ret
   refine ⟨_, rfl, ?_, ((Below.refl _ _).alloc (Nat.le_refl _) _).alloc (by simp) _⟩
   rw [HD.out]
   refine ⟨by simp [gcsT], .inr ⟨w.heap.size + 1, 1, #[.int .i64 (a : Int), .int .i64 (b : Int)], rfl, by omega, ?_, Nat.le_refl _, by unfold maxLen; omega, rfl, by simp [gcsT]⟩⟩
   have := heap_alloc_new (w.alloc (.cells #[.int .i64 (a : Int), .int .i64 (b : Int)] 201)) (.cells #[.int .i64 (a : Int), .int .i64 (b : Int)] 201)
   rwa [show (w.alloc (.cells #[.int .i64 (a : Int), .int .i64 (b : Int)] 201)).heap.size = w.heap.size + 1 from by simp] at this
  ·have e0 : ((n : Int) == 0) = false := by rw [beq_eq_false_iff_ne]; omega
   by_cases hnc : n = c
   ·have e1 : ((n : Int) == (c : Int)) = true := by rw [beq_iff_eq]; omega
    have HD : Hid (hd2 ps (k + 1) a c = []) := hd2_full HA.out (k + 1) a c h1 h2 (by rw [<- hn]; exact hnc)
    clear hn hb hnc hn0
    go_enter Tryz.func161, Tryz.ntmps161
    go_wp2_with fail
    go_ret
    refine ⟨_, rfl, ?_, (Below.refl _ _).alloc (Nat.le_refl _) _⟩
    rw [HD.out]
    exact OwnG.nil _ _
   ·have e1 : ((n : Int) == (c : Int)) = false := by rw [beq_eq_false_iff_ne]; omega
    obtain ⟨l1, l2, l3⟩ := lft_spec c
    have l3' := l3 (by omega)
    clear l1
    obtain ⟨m, hm⟩ := exE (a + lft c)
    obtain ⟨n1, hn1⟩ := exE ((seg ps (a : Int) (m : Int)).length)
    have hsp := seg_split HA.out (a := (a : Int)) (m := (m : Int)) (b := (a : Int) + (c : Int)) (by omega) (by omega)
    have hn1n : n1 <= n := by rw [hn, hsp, List.length_append, <- hn1]; omega
    have hn2 : (seg ps (m : Int) (b : Int)).length = n - n1 := by
     have := congrArg List.length hsp
     rw [List.length_append, <- hn, <- hn1] at this
     rw [show (b : Int) = (a : Int) + (c : Int) by omega]
     omega
    have HD : Hid (hd2 ps (k + 1) a c = hd2 ps k a (lft c) ++ hd2 ps k m (b - m)) := by
     unfold Hid
     rw [hd2_part (fun e => hn0 (by rw [hn]; exact seg_nil.2 e)) (by omega), hm, hb, show a + c - (a + lft c) = c - lft c by omega]
    have hmx : Tryz.prog.follows .mixedOrders = true := by kernel_rfl
    obtain ⟨bb, oo, hav, hbb⟩ : ∃ bb oo, av = some ⟨bb, oo, none⟩ /\ bb < w.heap.size := by
     obtain ⟨bb, oo, h1, h2, _⟩ := HL.out.row 0 (by rw [<- hn]; omega)
     exact ⟨bb, oo, h1, h2⟩
    subst hav
    have hcn : n <= cap := by have := HL.out.room; rwa [<- hn] at this
    have HPT : Hid (∀ W, Calls Tryz.prog 205 #[.agg #[.int .i64 (a : Int), .int .i64 (b : Int)]] W fun e w' => e = .returned (.tuple #[.agg #[.int .i64 (a : Int), .int .i64 (m : Int)], .agg #[.int .i64 (m : Int), .int .i64 (b : Int)]]) /\ Below W.heap.size W w') := fun W => by rw [hm]; exact parts_any a b c hb (by omega) W
    have HBS : Hid (∀ W, Below w.heap.size w W -> Calls Tryz.prog 206 #[.slice (some ⟨bb, oo, none⟩) n cap, .int .i64 (m : Int)] W fun e w' => ∃ t, e = .returned (.tuple #[.int .i64 (n1 : Int), .bool t]) /\ Below W.heap.size W w') := fun W hW => by
     have := Tryz.search_any bb oo n cap (seg ps (a : Int) ((a : Int) + (c : Int))) (m : Int) W (by omega) (by omega) (fun j hj => by
      obtain ⟨b', o', e1, e2, e3⟩ := HL.out.row j hj
      cases e1
      rw [hW.cell (p := ⟨bb, oo + j, none⟩) hbb, e3, zat_cf]) (by rw [hn, List.take_length]; exact (seg_asc HA.out _ _).imp (fun h => Int.le_of_lt h))
     rw [hn, List.take_length, seg_count (by omega), <- hn1, <- hn] at this
     refine this.mono ?_
     rintro e w' ⟨rfl, qq, rfl⟩
     exact ⟨_, rfl, rfl, rfl, rfl, Nat.le_refl _, fun _ _ => rfl⟩
    have hL1 : Lst w.heap.size w (some ⟨bb, oo, none⟩) cap (seg ps (a : Int) (m : Int)) := ⟨fun j hj => by
      obtain ⟨b', o', e1, e2, e3⟩ := HL.out.row j (by rw [hsp, List.length_append]; omega)
      refine ⟨b', o', e1, e2, e3.trans ?_⟩
      rw [hsp]
      simp [zat, List.getElem?_append_left hj], by omega, fun e => by cases e⟩
    have hL2 : ∀ o2, (cap = n1 ∨ o2 = oo + n1) -> Lst w.heap.size w (some ⟨bb, o2, none⟩) (cap - n1) (seg ps (m : Int) (b : Int)) := fun o2 ho2 => ⟨fun j hj => by
      have ho3 : o2 = oo + n1 := by rcases ho2 with h | h <;> omega
      subst ho3
      rw [show (b : Int) = (a : Int) + (c : Int) by omega] at hj
      obtain ⟨b', o', e1, e2, e3⟩ := HL.out.row (n1 + j) (by rw [hsp, List.length_append]; omega)
      cases e1
      refine ⟨bb, oo + n1, rfl, hbb, ?_⟩
      rw [Nat.add_assoc, e3, hsp, show (b : Int) = (a : Int) + (c : Int) by omega]
      simp only [zat]
      rw [List.getElem?_append_right (by omega), hn1, Nat.add_sub_cancel_left], by omega, fun e => by cases e⟩
    have HC1 : Hid (∀ W, Below w.heap.size w W -> Calls Tryz.prog 161 #[.agg #[.int .i64 (a : Int), .int .i64 (m : Int)], .slice (some ⟨bb, oo, none⟩) n1 cap] W fun e w' => ∃ v, e = .returned v /\ Hid (OwnG W.heap.size w' v (hd2 ps k a (lft c))) /\ Below W.heap.size W w') := fun W hW => by
     have := HIH.out a (lft c) (by omega) (by omega) (by omega) cap (some ⟨bb, oo, none⟩) W (by rw [show (a : Int) + (lft c : Int) = (m : Int) by omega]; exact (hL1.below hW).mono hW.size)
     rw [show (a : Int) + (lft c : Int) = (m : Int) by omega, <- hn1, <- hm] at this
     exact this
    have HC2 : Hid (∀ (o2 : Nat) (W : World), (cap = n1 ∨ o2 = oo + n1) -> Below w.heap.size w W -> Calls Tryz.prog 161 #[.agg #[.int .i64 (m : Int), .int .i64 (b : Int)], .slice (some ⟨bb, o2, none⟩) (n - n1) (cap - n1)] W fun e w' => ∃ v, e = .returned v /\ Hid (OwnG W.heap.size w' v (hd2 ps k m (b - m))) /\ Below W.heap.size W w') := fun o2 W ho2 hW => by
     have := HIH.out m (b - m) (by omega) (by omega) (by omega) (cap - n1) (some ⟨bb, o2, none⟩) W (by rw [show (m : Int) + ((b - m : Nat) : Int) = (b : Int) by omega]; exact ((hL2 o2 ho2).below hW).mono hW.size)
     rw [show (m : Int) + ((b - m : Nat) : Int) = (b : Int) by omega, hn2, show m + (b - m) = b by omega] at this
     exact this
    have hl1l : (hd2 ps k a (lft c)).length <= 1000000 := by have := hd2_len ps k a (lft c) (by omega) (by omega); omega
    have hl2l : (hd2 ps k m (b - m)).length <= 1000000 := by have := hd2_len ps k m (b - m) (by omega) (by omega); omega
    rw [HD.out]
    generalize hd2 ps k a (lft c) = G1 at *
    generalize hd2 ps k m (b - m) = G2 at *
    clear hn hb hm hn1 hn2 HIH HA HL HN HB hsp hnc hn0 HD hL1 hL2 l2 l3 l3' hlen h1 h2
    by_cases hk : cap = n1
    ·obtain rfl : n = n1 := by omega
     subst hk
     have HC2q : Hid (∀ W, Below w.heap.size w W -> Calls Tryz.prog 161 #[.agg #[.int .i64 (m : Int), .int .i64 (b : Int)], .slice (some ⟨bb, oo, none⟩) 0 0] W fun e w' => ∃ v, e = .returned v /\ Hid (OwnG W.heap.size w' v G2) /\ Below W.heap.size W w') := fun W hW => by
      have := HC2.out oo W (.inl rfl) hW
      rwa [Nat.sub_self] at this
     go_enter Tryz.func161, Tryz.ntmps161
     go_wp2_with fail
     have HB0 : Hid (Below w.heap.size w (w.alloc (.cells #[.int .i64 (a : Int), .int .i64 (b : Int)] 201))) := (Below.refl _ _).alloc (Nat.le_refl _) _
     refine (HPT.out _).mono ?_
     rintro e w1 ⟨rfl, hb1⟩
     have HB1 : Hid (Below w.heap.size w w1) := HB0.out.trans (hb1.mono HB0.out.size)
     clear hb1
     go_wp2_with fail
     have HB2 : Hid (Below w.heap.size w ((w1.alloc (.cells #[.int .i64 (a : Int), .int .i64 (m : Int)] 201)).alloc (.cells #[.int .i64 (m : Int), .int .i64 (b : Int)] 201))) := (HB1.out.alloc HB1.out.size _).alloc (by have := HB1.out.size; simp; omega) _
     have HLc := hid ((duo_new w1 201 (.int .i64 (a : Int)) (.int .i64 (m : Int))).alloc (.cells #[.int .i64 (m : Int), .int .i64 (b : Int)] 201))
     have HRc : Hid (((w1.alloc (.cells #[.int .i64 (a : Int), .int .i64 (m : Int)] 201)).alloc (.cells #[.int .i64 (m : Int), .int .i64 (b : Int)] 201)).rowIs (w1.heap.size + 1) 201 2 (duo (.int .i64 (m : Int)) (.int .i64 (b : Int)))) := by
      have := duo_new (w1.alloc (.cells #[.int .i64 (a : Int), .int .i64 (m : Int)] 201)) 201 (.int .i64 (m : Int)) (.int .i64 (b : Int))
      rwa [show (w1.alloc (.cells #[.int .i64 (a : Int), .int .i64 (m : Int)] 201)).heap.size = w1.heap.size + 1 from by simp] at this
     generalize (w1.alloc (.cells #[.int .i64 (a : Int), .int .i64 (m : Int)] 201)).alloc (.cells #[.int .i64 (m : Int), .int .i64 (b : Int)] 201) = W2 at *
     have hbs := HBS.out W2 HB2.out
     refine hbs.mono ?_
     clear hbs
     rintro e w3 ⟨tt, rfl, hb3⟩
     have HLc3 := hid (HLc.out.of_block (hb3.block _ HLc.out.lt))
     have HRc3 := hid (HRc.out.of_block (hb3.block _ HRc.out.lt))
     have HB3 : Hid (Below w.heap.size w w3) := HB2.out.trans (hb3.mono HB2.out.size)
     clear hb3 HLc HRc HB2 HB1 HB0
     go_wp2_with fail
     have HKe : Hid (∀ W, Below w3.heap.size w3 W -> W.cell? ⟨w1.heap.size, 0, none⟩ = some (.int .i64 (a : Int)) /\ W.cell? ⟨w1.heap.size, 1, none⟩ = some (.int .i64 (m : Int)) /\ W.cell? ⟨w1.heap.size + 1, 0, none⟩ = some (.int .i64 (m : Int)) /\ W.cell? ⟨w1.heap.size + 1, 1, none⟩ = some (.int .i64 (b : Int))) := fun W h =>
      ⟨(h.cell (p := ⟨w1.heap.size, 0, none⟩) HLc3.out.lt).trans (HLc3.out.cell (i := 0) (by omega)), (h.cell (p := ⟨w1.heap.size, 1, none⟩) HLc3.out.lt).trans (HLc3.out.cell (i := 1) (by omega)), (h.cell (p := ⟨w1.heap.size + 1, 0, none⟩) HRc3.out.lt).trans (HRc3.out.cell (i := 0) (by omega)), (h.cell (p := ⟨w1.heap.size + 1, 1, none⟩) HRc3.out.lt).trans (HRc3.out.cell (i := 1) (by omega))⟩
     have HC1' : Hid (∀ W, Below w3.heap.size w3 W -> Calls Tryz.prog 161 #[.agg #[.int .i64 (a : Int), .int .i64 (m : Int)], .slice (some ⟨bb, oo, none⟩) cap cap] W fun e w' => ∃ v, e = .returned v /\ Hid (OwnG w3.heap.size w' v G1) /\ Below w3.heap.size w3 w') := fun W hW => by
      refine (HC1.out W (HB3.out.trans (hW.mono HB3.out.size))).mono ?_
      rintro e w' ⟨v, rfl, h1, h2⟩
      exact ⟨v, rfl, h1.out.mono hW.size, hW.trans (h2.mono hW.size)⟩
     have HC2' : Hid (∀ (W : World) (v1 : Value), Hid (OwnG w3.heap.size W v1 G1) -> Below w3.heap.size w3 W -> Calls Tryz.prog 161 #[.agg #[.int .i64 (m : Int), .int .i64 (b : Int)], .slice (some ⟨bb, oo, none⟩) 0 0] W fun e w' => ∃ v, e = .returned v /\ Below w3.heap.size w3 w' /\ ∃ v' w4, (Builtin.append_ #[210, 210] 210 #[v1, v]).run Tryz.prog w' = .ok v' w4 /\ Hid (OwnG w3.heap.size w4 v' (G1 ++ G2)) /\ Below w3.heap.size w3 w4) := fun W v1 h0 hW => by
      refine (HC2q.out W (HB3.out.trans (hW.mono HB3.out.size))).mono ?_
      rintro e w' ⟨v, rfl, h1, h2⟩
      obtain ⟨v', w4, r1, r2, r3⟩ := run_appG w' w3.heap.size v1 v G1 G2 (h0.out.keep h2) (h1.out.mono hW.size) (by omega) (by have := hW.size; have := h2.size; omega)
      exact ⟨v, rfl, hW.trans (h2.mono hW.size), v', w4, r1, r2, (hW.trans (h2.mono hW.size)).trans r3⟩
     have hb30 : Below w3.heap.size w3 w3.drew := (Below.refl _ _).drew
     clear HC1 HC2 HC2q HPT HBS
     have hC0 := HKe.out _ hb30
     refine wp_region_S (C := fun W => W.cell? ⟨w1.heap.size, 0, none⟩ = some (.int .i64 (a : Int)) /\ W.cell? ⟨w1.heap.size, 1, none⟩ = some (.int .i64 (m : Int)) /\ W.cell? ⟨w1.heap.size + 1, 0, none⟩ = some (.int .i64 (m : Int)) /\ W.cell? ⟨w1.heap.size + 1, 1, none⟩ = some (.int .i64 (b : Int))) (st := [11]) hmx ?_
     show wpAnyS _ _ _ _ _ _ 12 (Array.replicate 12 false) _ _
     refine wpAnyS_take (i := 0) (v := (.agg #[.int .i64 (a : Int), .int .i64 (m : Int)])) rfl (by kernel_rfl) (by kernel_rfl) (by kernel_rfl) (by kernel_rfl) (by kernel_rfl) (by kernel_rfl) (fun _ _ _ h => h) (Or.inl ⟨by rfl, fun W hC => ?_⟩) hC0 ?_
     ·obtain ⟨g0, g1, g2, g3⟩ := hC
      go_simp
     refine wpAnyS_pure (i := 1) (v := (.slice (some ⟨bb, oo, none⟩) cap cap)) rfl (by kernel_rfl) (by kernel_rfl) (by kernel_rfl) (by kernel_rfl) (fun _ _ _ h => h) (Or.inl ⟨by rfl, fun W _ => ?_⟩) (fun _ => hC0) ?_
     ·go_simp
     refine wpAnyS_pure (i := 2) (v := (.int .i64 (cap : Int))) rfl (by kernel_rfl) (by kernel_rfl) (by kernel_rfl) (by kernel_rfl) (fun _ _ _ h => h) (Or.inl ⟨by rfl, fun W _ => ?_⟩) (fun _ => hC0) ?_
     ·go_simp
     refine wpAnyS_pure (i := 3) (v := (.slice (some ⟨bb, oo, none⟩) cap cap)) rfl (by kernel_rfl) (by kernel_rfl) (by kernel_rfl) (by kernel_rfl) (fun _ _ _ h => h) (Or.inl ⟨by rfl, fun W _ => ?_⟩) (fun _ => hC0) ?_
     ·go_simp
     refine wpAnyS_take (i := 5) (v := (.agg #[.int .i64 (m : Int), .int .i64 (b : Int)])) rfl (by kernel_rfl) (by kernel_rfl) (by kernel_rfl) (by kernel_rfl) (by kernel_rfl) (by kernel_rfl) (fun _ _ _ h => h) (Or.inl ⟨by rfl, fun W hC => ?_⟩) hC0 ?_
     ·obtain ⟨g0, g1, g2, g3⟩ := hC
      go_simp
     refine wpAnyS_pure (i := 6) (v := (.slice (some ⟨bb, oo, none⟩) cap cap)) rfl (by kernel_rfl) (by kernel_rfl) (by kernel_rfl) (by kernel_rfl) (fun _ _ _ h => h) (Or.inl ⟨by rfl, fun W _ => ?_⟩) (fun _ => hC0) ?_
     ·go_simp
     refine wpAnyS_pure (i := 7) (v := (.int .i64 (cap : Int))) rfl (by kernel_rfl) (by kernel_rfl) (by kernel_rfl) (by kernel_rfl) (fun _ _ _ h => h) (Or.inl ⟨by rfl, fun W _ => ?_⟩) (fun _ => hC0) ?_
     ·go_simp
     refine wpAnyS_pure (i := 8) (v := (.slice (some ⟨bb, oo, none⟩) 0 0)) rfl (by kernel_rfl) (by kernel_rfl) (by kernel_rfl) (by kernel_rfl) (fun _ _ _ h => h) (Or.inl ⟨by rfl, fun W _ => ?_⟩) (fun _ => hC0) ?_
     ·go_simp
     refine wpAnyS_one (i := 4) (by kernel_rfl) ?_
     refine wpOp_step rfl (fun K' hK' => ?_)
     rw [if_pos (by rfl)]
     go_simp
     refine (HC1'.out _ hb30).mono ?_
     rintro e w' ⟨v1, rfl, hown1, hbv1⟩
     refine hK' _ _ ⟨fun _ => HKe.out _ hbv1, ?_⟩
     clear hK' K'
     refine wpAnyS_one (i := 9) (by kernel_rfl) ?_
     refine wpOp_step rfl (fun K' hK' => ?_)
     rw [if_pos (by rfl)]
     go_simp
     refine (HC2'.out _ _ hown1 hbv1).mono ?_
     rintro e w' ⟨v2, rfl, hbv2, v', w4, hrun, hown4, hb5⟩
     refine hK' _ _ ⟨fun _ => HKe.out _ hbv2, ?_⟩
     clear hK' K'
     refine wpAnyS_one (i := 10) (by kernel_rfl) ?_
     refine wpOp_step rfl (fun K' hK' => ?_)
     rw [if_pos (by rfl)]
     refine wp_append_run _ _ _ _ rfl rfl _ _ _ _ hrun rfl rfl ?_
     refine hK' _ _ ⟨fun _ => HKe.out _ hb5, ?_⟩
     clear hK' K'
     refine wpAnyS_one (i := 11) (by kernel_rfl) ?_
     refine wpOp_step rfl (fun K' hK' => ?_)
     rw [if_pos (by rfl)]
     go_simp
     refine hK' _ _ ⟨fun h => absurd (h 11 (by simp)) (by decide), ?_⟩
     clear hK' K'
     refine wpAnyS_done (by kernel_rfl) ?_ _
     go_wp2_with fail
     go_ret
     exact ⟨_, rfl, hown4.out.mono HB3.out.size, HB3.out.trans (hb5.mono HB3.out.size)⟩
    ·have hk2 : ¬ (cap : Int) = (n1 : Int) := by omega
     have hk3 : ¬ (n1 : Int) = (cap : Int) := by omega
     have hk4 : (n1 : Int) < (cap : Int) := by omega
     have hcn2 : (n : Int) <= (cap : Int) := by omega
     have hn1n2 : (n1 : Int) <= (n : Int) := by omega
     have hn1n3 : (n1 : Int) <= (cap : Int) := by omega
     go_enter Tryz.func161, Tryz.ntmps161
     go_wp2_with fail
     have HB0 : Hid (Below w.heap.size w (w.alloc (.cells #[.int .i64 (a : Int), .int .i64 (b : Int)] 201))) := (Below.refl _ _).alloc (Nat.le_refl _) _
     refine (HPT.out _).mono ?_
     rintro e w1 ⟨rfl, hb1⟩
     have HB1 : Hid (Below w.heap.size w w1) := HB0.out.trans (hb1.mono HB0.out.size)
     clear hb1
     go_wp2_with fail
     have HB2 : Hid (Below w.heap.size w ((w1.alloc (.cells #[.int .i64 (a : Int), .int .i64 (m : Int)] 201)).alloc (.cells #[.int .i64 (m : Int), .int .i64 (b : Int)] 201))) := (HB1.out.alloc HB1.out.size _).alloc (by have := HB1.out.size; simp; omega) _
     have HLc := hid ((duo_new w1 201 (.int .i64 (a : Int)) (.int .i64 (m : Int))).alloc (.cells #[.int .i64 (m : Int), .int .i64 (b : Int)] 201))
     have HRc : Hid (((w1.alloc (.cells #[.int .i64 (a : Int), .int .i64 (m : Int)] 201)).alloc (.cells #[.int .i64 (m : Int), .int .i64 (b : Int)] 201)).rowIs (w1.heap.size + 1) 201 2 (duo (.int .i64 (m : Int)) (.int .i64 (b : Int)))) := by
      have := duo_new (w1.alloc (.cells #[.int .i64 (a : Int), .int .i64 (m : Int)] 201)) 201 (.int .i64 (m : Int)) (.int .i64 (b : Int))
      rwa [show (w1.alloc (.cells #[.int .i64 (a : Int), .int .i64 (m : Int)] 201)).heap.size = w1.heap.size + 1 from by simp] at this
     generalize (w1.alloc (.cells #[.int .i64 (a : Int), .int .i64 (m : Int)] 201)).alloc (.cells #[.int .i64 (m : Int), .int .i64 (b : Int)] 201) = W2 at *
     have hbs := HBS.out W2 HB2.out
     refine hbs.mono ?_
     clear hbs
     rintro e w3 ⟨tt, rfl, hb3⟩
     have HLc3 := hid (HLc.out.of_block (hb3.block _ HLc.out.lt))
     have HRc3 := hid (HRc.out.of_block (hb3.block _ HRc.out.lt))
     have HB3 : Hid (Below w.heap.size w w3) := HB2.out.trans (hb3.mono HB2.out.size)
     clear hb3 HLc HRc HB2 HB1 HB0
     go_wp2_with fail
     have HKe : Hid (∀ W, Below w3.heap.size w3 W -> W.cell? ⟨w1.heap.size, 0, none⟩ = some (.int .i64 (a : Int)) /\ W.cell? ⟨w1.heap.size, 1, none⟩ = some (.int .i64 (m : Int)) /\ W.cell? ⟨w1.heap.size + 1, 0, none⟩ = some (.int .i64 (m : Int)) /\ W.cell? ⟨w1.heap.size + 1, 1, none⟩ = some (.int .i64 (b : Int))) := fun W h =>
      ⟨(h.cell (p := ⟨w1.heap.size, 0, none⟩) HLc3.out.lt).trans (HLc3.out.cell (i := 0) (by omega)), (h.cell (p := ⟨w1.heap.size, 1, none⟩) HLc3.out.lt).trans (HLc3.out.cell (i := 1) (by omega)), (h.cell (p := ⟨w1.heap.size + 1, 0, none⟩) HRc3.out.lt).trans (HRc3.out.cell (i := 0) (by omega)), (h.cell (p := ⟨w1.heap.size + 1, 1, none⟩) HRc3.out.lt).trans (HRc3.out.cell (i := 1) (by omega))⟩
     have HC1' : Hid (∀ W, Below w3.heap.size w3 W -> Calls Tryz.prog 161 #[.agg #[.int .i64 (a : Int), .int .i64 (m : Int)], .slice (some ⟨bb, oo, none⟩) n1 cap] W fun e w' => ∃ v, e = .returned v /\ Hid (OwnG w3.heap.size w' v G1) /\ Below w3.heap.size w3 w') := fun W hW => by
      refine (HC1.out W (HB3.out.trans (hW.mono HB3.out.size))).mono ?_
      rintro e w' ⟨v, rfl, h1, h2⟩
      exact ⟨v, rfl, h1.out.mono hW.size, hW.trans (h2.mono hW.size)⟩
     have HC2' : Hid (∀ (W : World) (v1 : Value), Hid (OwnG w3.heap.size W v1 G1) -> Below w3.heap.size w3 W -> Calls Tryz.prog 161 #[.agg #[.int .i64 (m : Int), .int .i64 (b : Int)], .slice (some ⟨bb, oo + n1, none⟩) (n - n1) (cap - n1)] W fun e w' => ∃ v, e = .returned v /\ Below w3.heap.size w3 w' /\ ∃ v' w4, (Builtin.append_ #[210, 210] 210 #[v1, v]).run Tryz.prog w' = .ok v' w4 /\ Hid (OwnG w3.heap.size w4 v' (G1 ++ G2)) /\ Below w3.heap.size w3 w4) := fun W v1 h0 hW => by
      refine (HC2.out (oo + n1) W (.inr rfl) (HB3.out.trans (hW.mono HB3.out.size))).mono ?_
      rintro e w' ⟨v, rfl, h1, h2⟩
      obtain ⟨v', w4, r1, r2, r3⟩ := run_appG w' w3.heap.size v1 v G1 G2 (h0.out.keep h2) (h1.out.mono hW.size) (by omega) (by have := hW.size; have := h2.size; omega)
      exact ⟨v, rfl, hW.trans (h2.mono hW.size), v', w4, r1, r2, (hW.trans (h2.mono hW.size)).trans r3⟩
     have hb30 : Below w3.heap.size w3 w3.drew := (Below.refl _ _).drew
     clear HC1 HC2 HPT HBS
     have hC0 := HKe.out _ hb30
     refine wp_region_S (C := fun W => W.cell? ⟨w1.heap.size, 0, none⟩ = some (.int .i64 (a : Int)) /\ W.cell? ⟨w1.heap.size, 1, none⟩ = some (.int .i64 (m : Int)) /\ W.cell? ⟨w1.heap.size + 1, 0, none⟩ = some (.int .i64 (m : Int)) /\ W.cell? ⟨w1.heap.size + 1, 1, none⟩ = some (.int .i64 (b : Int))) (st := [11]) hmx ?_
     show wpAnyS _ _ _ _ _ _ 12 (Array.replicate 12 false) _ _
     refine wpAnyS_take (i := 0) (v := (.agg #[.int .i64 (a : Int), .int .i64 (m : Int)])) rfl (by kernel_rfl) (by kernel_rfl) (by kernel_rfl) (by kernel_rfl) (by kernel_rfl) (by kernel_rfl) (fun _ _ _ h => h) (Or.inl ⟨by rfl, fun W hC => ?_⟩) hC0 ?_
     ·obtain ⟨g0, g1, g2, g3⟩ := hC
      go_simp
     refine wpAnyS_pure (i := 1) (v := (.slice (some ⟨bb, oo, none⟩) n cap)) rfl (by kernel_rfl) (by kernel_rfl) (by kernel_rfl) (by kernel_rfl) (fun _ _ _ h => h) (Or.inl ⟨by rfl, fun W _ => ?_⟩) (fun _ => hC0) ?_
     ·go_simp
     refine wpAnyS_pure (i := 2) (v := (.int .i64 (n1 : Int))) rfl (by kernel_rfl) (by kernel_rfl) (by kernel_rfl) (by kernel_rfl) (fun _ _ _ h => h) (Or.inl ⟨by rfl, fun W _ => ?_⟩) (fun _ => hC0) ?_
     ·go_simp
     refine wpAnyS_pure (i := 3) (v := (.slice (some ⟨bb, oo, none⟩) n1 cap)) rfl (by kernel_rfl) (by kernel_rfl) (by kernel_rfl) (by kernel_rfl) (fun _ _ _ h => h) (Or.inl ⟨by rfl, fun W _ => ?_⟩) (fun _ => hC0) ?_
     ·go_simp
     refine wpAnyS_take (i := 5) (v := (.agg #[.int .i64 (m : Int), .int .i64 (b : Int)])) rfl (by kernel_rfl) (by kernel_rfl) (by kernel_rfl) (by kernel_rfl) (by kernel_rfl) (by kernel_rfl) (fun _ _ _ h => h) (Or.inl ⟨by rfl, fun W hC => ?_⟩) hC0 ?_
     ·obtain ⟨g0, g1, g2, g3⟩ := hC
      go_simp
     refine wpAnyS_pure (i := 6) (v := (.slice (some ⟨bb, oo, none⟩) n cap)) rfl (by kernel_rfl) (by kernel_rfl) (by kernel_rfl) (by kernel_rfl) (fun _ _ _ h => h) (Or.inl ⟨by rfl, fun W _ => ?_⟩) (fun _ => hC0) ?_
     ·go_simp
     refine wpAnyS_pure (i := 7) (v := (.int .i64 (n1 : Int))) rfl (by kernel_rfl) (by kernel_rfl) (by kernel_rfl) (by kernel_rfl) (fun _ _ _ h => h) (Or.inl ⟨by rfl, fun W _ => ?_⟩) (fun _ => hC0) ?_
     ·go_simp
     refine wpAnyS_pure (i := 8) (v := (.slice (some ⟨bb, oo + n1, none⟩) (n - n1) (cap - n1))) rfl (by kernel_rfl) (by kernel_rfl) (by kernel_rfl) (by kernel_rfl) (fun _ _ _ h => h) (Or.inl ⟨by rfl, fun W _ => ?_⟩) (fun _ => hC0) ?_
     ·go_simp
     refine wpAnyS_one (i := 4) (by kernel_rfl) ?_
     refine wpOp_step rfl (fun K' hK' => ?_)
     rw [if_pos (by rfl)]
     go_simp
     refine (HC1'.out _ hb30).mono ?_
     rintro e w' ⟨v1, rfl, hown1, hbv1⟩
     refine hK' _ _ ⟨fun _ => HKe.out _ hbv1, ?_⟩
     clear hK' K'
     refine wpAnyS_one (i := 9) (by kernel_rfl) ?_
     refine wpOp_step rfl (fun K' hK' => ?_)
     rw [if_pos (by rfl)]
     go_simp
     refine (HC2'.out _ _ hown1 hbv1).mono ?_
     rintro e w' ⟨v2, rfl, hbv2, v', w4, hrun, hown4, hb5⟩
     refine hK' _ _ ⟨fun _ => HKe.out _ hbv2, ?_⟩
     clear hK' K'
     refine wpAnyS_one (i := 10) (by kernel_rfl) ?_
     refine wpOp_step rfl (fun K' hK' => ?_)
     rw [if_pos (by rfl)]
     refine wp_append_run _ _ _ _ rfl rfl _ _ _ _ hrun rfl rfl ?_
     refine hK' _ _ ⟨fun _ => HKe.out _ hb5, ?_⟩
     clear hK' K'
     refine wpAnyS_one (i := 11) (by kernel_rfl) ?_
     refine wpOp_step rfl (fun K' hK' => ?_)
     rw [if_pos (by rfl)]
     go_simp
     refine hK' _ _ ⟨fun h => absurd (h 11 (by simp)) (by decide), ?_⟩
     clear hK' K'
     refine wpAnyS_done (by kernel_rfl) ?_ _
     go_wp2_with fail
     go_ret
     exact ⟨_, rfl, hown4.out.mono HB3.out.size, HB3.out.trans (hb5.mono HB3.out.size)⟩
def lackb (a b : Nat) (x : Int) : Bool := decide (x < (a : Int)) || decide ((b : Int) <= x)
theorem any_of {a b : Nat} {l : List Int} {k : Nat} (hk : k < l.length) (h : lackb a b (zat l k) = true) : l.any (lackb a b) = true := List.any_eq_true.2 ⟨zat l k, zat_mem hk, h⟩
theorem any_not {a b : Nat} {l : List Int} (h : ∀ j, j < l.length -> lackb a b (zat l j) = false) : l.any (lackb a b) = false := by
 rw [List.any_eq_false]
 intro x hx
 obtain ⟨j, hj, rfl⟩ := mem_zat hx
 rw [h j hj]
 simp
theorem index_any (a b : Nat) (cap : Nat) (av : Option Addr) (l : List Int) (w : World) (hlen : l.length <= 281474976710656) (hrow : RowB w.heap.size w av l) :
  Calls Tryz.prog 202 #[.slice av l.length cap, .func (Fn.func 156) #[.agg #[.int .i64 (a : Int), .int .i64 (b : Int)]] #[]] w fun e w' => (∃ r : Int, e = .returned (.int .i64 r) /\ decide (0 <= r) = l.any (lackb a b)) /\ Below w.heap.size w w' := by
 have HR := hid hrow
 obtain ⟨n, hn⟩ := exE (l.length)
 rw [<- hn] at hlen ⊢
 have HN := hid hn
 clear hrow hn
 have HLA : Hid (∀ (x : Int) (W : World), Calls Tryz.prog 156 #[.agg #[.int .i64 (a : Int), .int .i64 (b : Int)], .int .i64 x] W fun e w' => e = .returned (.bool (lackb a b x)) /\ Below W.heap.size W w') := fun x W => lacks_any a b x W
 go_enter Tryz.func202, Tryz.ntmps202
 go_wp2_with fail
 go_loopw [8] (fun iv wr => ∃ k : Nat, k <= n /\ iv = .int .i64 k /\ Hid ((∀ j, j < k -> lackb a b (zat l j) = false) /\ Below w.heap.size w wr)) (fun iv _ => n - (intOf iv).toNat)
 case atStart => exact ⟨0, by omega, rfl, fun j hj => by omega, Below.refl _ _⟩
 case round =>
  obtain ⟨k, hk, rfl, hC⟩ := hrel
  by_cases hlt : k < n
  ·have hlt2 : (k : Int) < (n : Int) := by omega
   have hks : IntKind.i64.wrap ((k : Int) + 1) = (k : Int) + 1 := by rw [IntKind.wrap_i64]; omega
   obtain ⟨bl, ol, rfl, hbl', hcl⟩ := HR.out k (by rw [<- HN.out]; exact hlt)
   have hcl2 := (hC.out.2.cell (p := ⟨bl, ol + k, none⟩) hbl').trans hcl
   have HB := hid hC.out.2
   have HP := hid hC.out.1
   have hLA := HLA.out (zat l k) wr
   have HZ : Hid (lackb a b (zat l k) = true -> l.any (lackb a b) = true) := fun h => any_of (by rw [<- HN.out]; exact hlt) h
   have HZ2 : Hid (lackb a b (zat l k) = false -> ∀ j, j < k + 1 -> lackb a b (zat l j) = false) := fun h j hj => by
    rcases Nat.lt_or_ge j k with h' | h'
    ·exact HP.out j h'
    ·rw [show j = k by omega]; exact h
   clear hcl hbl' hC
   generalize zat l k = x at *
   cases hb : lackb a b x with
   | true =>
    rw [hb] at hLA
    have hLA2 := hid hLA
    clear hLA
    go_wp2_with fail
    refine hLA2.out.mono ?_
    rintro e w1 ⟨rfl, hb1⟩
    have HE : Hid (Below w.heap.size w w1) := HB.out.trans (hb1.mono HB.out.size)
    have HZ3 := hid (HZ.out hb)
    clear hb1
    go_wp2_with fail
    go_ret
    refine ⟨⟨(k : Int), rfl, ?_⟩, HE.out⟩
    rw [HZ3.out]
    simp
   | false =>
    rw [hb] at hLA
    have hLA2 := hid hLA
    clear hLA
    go_wp2_with fail
    refine hLA2.out.mono ?_
    rintro e w1 ⟨rfl, hb1⟩
    have HE : Hid ((∀ j, j < k + 1 -> lackb a b (zat l j) = false) /\ Below w.heap.size w w1) := ⟨HZ2.out hb, HB.out.trans (hb1.mono HB.out.size)⟩
    clear hb1
    go_wp2_with fail
    go_roundw
    case rel => exact ⟨k + 1, by omega, by go_num, HE⟩
    case measure => simp [intOf]; omega
  ·obtain rfl : k = n := by omega
   have HE := hC
   clear hC
   go_wp2_with fail
   go_ret
   refine ⟨⟨-1, rfl, ?_⟩, HE.out.2⟩
   rw [any_not (fun j hj => HE.out.1 j (by rw [HN.out]; exact hj))]
   simp
theorem contains_any (a b : Nat) (cap : Nat) (av : Option Addr) (l : List Int) (w : World) (hlen : l.length <= 281474976710656) (hrow : RowB w.heap.size w av l) :
  Calls Tryz.prog 155 #[.slice av l.length cap, .func (Fn.func 156) #[.agg #[.int .i64 (a : Int), .int .i64 (b : Int)]] #[]] w fun e w' => e = .returned (.bool (l.any (lackb a b))) /\ Below w.heap.size w w' := by
 have HI := hid (index_any a b cap av l w hlen hrow)
 clear hrow
 go_enter Tryz.func155, Tryz.ntmps155
 go_wp2_with fail
 refine HI.out.mono ?_
 rintro e w1 ⟨⟨r, rfl, hr⟩, hb⟩
 have HRR := hid hr
 have HB := hid hb
 clear hr hb
 go_wp2_with fail
 go_ret
 exact ⟨by rw [<- HRR.out]; rfl, HB.out⟩
theorem seg_all {ps : List Int} {N : Nat} (h : ∀ x ∈ ps, 0 <= x /\ x < (N : Int)) : seg ps ((0 : Nat) : Int) (((0 : Nat) : Int) + (N : Int)) = ps := by
 unfold seg
 rw [List.filter_eq_self]
 intro x hx
 have := h x hx
 simp
 omega
theorem lack_all {ps : List Int} {N : Nat} (h : ps.any (lackb 0 N) = false) : ∀ x ∈ ps, 0 <= x /\ x < (N : Int) := fun x hx => by
 have := List.any_eq_false.1 h x hx
 simp [lackb] at this
 omega
def ShwnR (N : Nat) (ps : List Int) (rows nodes : List (List Int)) (w : World) (e : Ending) (w' : World) : Prop := (∃ t, e = .returned (.bool t) /\ (t = true ↔ shwn N ps rows nodes)) /\ Below w.heap.size w w'
theorem ShwnR.no {N : Nat} {ps : List Int} {rows nodes : List (List Int)} {w w' : World} (h : ¬ shwn N ps rows nodes) (hb : Below w.heap.size w w') : ShwnR N ps rows nodes w (.returned (.bool false)) w' := ⟨⟨false, rfl, by simp; exact h⟩, hb⟩
theorem ShwnR.mk {N : Nat} {ps : List Int} {rows nodes : List (List Int)} {w w' : World} (t : Bool) (h : t = true ↔ shwn N ps rows nodes) (hb : Below w.heap.size w w') : ShwnR N ps rows nodes w (.returned (.bool t)) w' := ⟨⟨t, rfl, h⟩, hb⟩
structure OpnAt (W : World) (O cp cr cn : Nat) (ap ar an' : Option Addr) (ps : List Int) (rows nodes : List (List Int)) : Prop where
 c0 : W.cell? ⟨O, 0, none⟩ = some (.slice ap ps.length cp)
 c1 : W.cell? ⟨O, 1, none⟩ = some (.slice ar rows.length cr)
 c2 : W.cell? ⟨O, 2, none⟩ = some (.slice an' nodes.length cn)
theorem isshown_any (N : Nat) (cp cr cn : Nat) (ap ar an' : Option Addr) (ps : List Int) (rows nodes : List (List Int)) (w : World) (h1 : 1 <= N) (hN : N <= 65536) (hpl : ps.length <= 281474976710656) (hnl : nodes.length <= 281474976710656) (hp : Lst w.heap.size w ap cp ps) (hn : LstR w.heap.size w an' cn nodes) :
  Calls Tryz.prog 217 #[gk 0 N, .agg #[.slice ap ps.length cp, .slice ar rows.length cr, .slice an' nodes.length cn]] w (ShwnR N ps rows nodes w) := by
 unfold gk
 have HL := hid hp
 have HNL := hid hn
 clear hp hn
 by_cases hrp : rows.length = ps.length
 ·have hrp2 : ((rows.length : Int) != (ps.length : Int)) = false := by simp; omega
  have HRP := hid hrp
  clear hrp
  have HCO : Hid (∀ W, Below w.heap.size w W -> Calls Tryz.prog 155 #[.slice ap ps.length cp, .func (Fn.func 156) #[.agg #[.int .i64 0, .int .i64 (N : Int)]] #[]] W fun e w' => e = .returned (.bool (ps.any (lackb 0 N))) /\ Below W.heap.size W w') := fun W h => contains_any 0 N cp ap ps W hpl ((HL.out.row.below h).mono h.size)
  go_enter Tryz.func217, Tryz.ntmps217
  go_wp2_with fail
  have HO := hid (show OpnAt ((w.alloc (.cells #[.int .i64 0, .int .i64 (N : Int)] 201)).alloc (.cells #[.slice ap ps.length cp, .slice ar rows.length cr, .slice an' nodes.length cn] 31)) (w.heap.size + 1) cp cr cn ap ar an' ps rows nodes from by
   have h3 := tri_new (w.alloc (.cells #[.int .i64 0, .int .i64 (N : Int)] 201)) 31 (.slice ap ps.length cp) (.slice ar rows.length cr) (.slice an' nodes.length cn)
   rw [show (w.alloc (.cells #[.int .i64 0, .int .i64 (N : Int)] 201)).heap.size = w.heap.size + 1 from by simp] at h3
   exact ⟨h3.cell (i := 0) (by omega), h3.cell (i := 1) (by omega), h3.cell (i := 2) (by omega)⟩)
  have HG := hid ((duo_new w 201 (.int .i64 0) (.int .i64 (N : Int))).alloc (.cells #[.slice ap ps.length cp, .slice ar rows.length cr, .slice an' nodes.length cn] 31))
  have HB0 : Hid (Below w.heap.size w ((w.alloc (.cells #[.int .i64 0, .int .i64 (N : Int)] 201)).alloc (.cells #[.slice ap ps.length cp, .slice ar rows.length cr, .slice an' nodes.length cn] 31))) := ((Below.refl _ _).alloc (Nat.le_refl _) _).alloc (by simp) _
  have hs0 : ((w.alloc (.cells #[.int .i64 0, .int .i64 (N : Int)] 201)).alloc (.cells #[.slice ap ps.length cp, .slice ar rows.length cr, .slice an' nodes.length cn] 31)).heap.size = w.heap.size + 2 := by simp
  generalize (w.alloc (.cells #[.int .i64 0, .int .i64 (N : Int)] 201)).alloc (.cells #[.slice ap ps.length cp, .slice ar rows.length cr, .slice an' nodes.length cn] 31) = W0 at *
  refine (HCO.out W0 HB0.out).mono ?_
  rintro e W1 ⟨rfl, hb1⟩
  have HB1 : Hid (Below w.heap.size w W1) := HB0.out.trans (hb1.mono HB0.out.size)
  have HS : Hid (∀ W, Below W1.heap.size W1 W -> OpnAt W (w.heap.size + 1) cp cr cn ap ar an' ps rows nodes /\ W.cell? ⟨w.heap.size, 0, none⟩ = some (.int .i64 0) /\ W.cell? ⟨w.heap.size, 1, none⟩ = some (.int .i64 (N : Int)) /\ Lst W.heap.size W ap cp ps /\ LstR W.heap.size W an' cn nodes /\ Below w.heap.size w W) := fun W h => by
   have hb2 : Below W0.heap.size W0 W := hb1.trans (h.mono hb1.size)
   have hb3 := HB0.out.trans (hb2.mono HB0.out.size)
   exact ⟨⟨(hb2.cell (p := ⟨w.heap.size + 1, 0, none⟩) (by show w.heap.size + 1 < _; omega)).trans HO.out.c0, (hb2.cell (p := ⟨w.heap.size + 1, 1, none⟩) (by show w.heap.size + 1 < _; omega)).trans HO.out.c1, (hb2.cell (p := ⟨w.heap.size + 1, 2, none⟩) (by show w.heap.size + 1 < _; omega)).trans HO.out.c2⟩,
    (hb2.cell (p := ⟨w.heap.size, 0, none⟩) (by show w.heap.size < _; omega)).trans (HG.out.cell (i := 0) (by omega)), (hb2.cell (p := ⟨w.heap.size, 1, none⟩) (by show w.heap.size < _; omega)).trans (HG.out.cell (i := 1) (by omega)), (HL.out.below hb3).mono hb3.size, (HNL.out.below hb3).mono hb3.size, hb3⟩
  clear hb1 HO HG HB0 hs0 HCO
  cases hany : ps.any (lackb 0 N) with
  | true =>
   have HNO : Hid (¬ shwn N ps rows nodes) := fun h => by
    obtain ⟨x, hx, hl⟩ := List.any_eq_true.1 hany
    obtain ⟨j, hj, rfl⟩ := mem_zat hx
    have := h.2.1 j hj
    simp [lackb] at hl
    omega
   clear hany
   go_wp2_with fail
   go_ret
   exact ShwnR.no HNO.out HB1.out
  | false =>
   have HIN := hid (lack_all hany)
   clear hany
   have hO1 := (HS.out W1 (Below.refl _ _)).1
   have hg0 := (HS.out W1 (Below.refl _ _)).2.1
   have hg1 := (HS.out W1 (Below.refl _ _)).2.2.1
   have k0 := hO1.c0
   have k2 := hO1.c2
   clear hO1
   obtain ⟨pl, hpq⟩ := exE (ps.length)
   rw [<- hpq] at k0 hpl
   have HPQ := hid hpq
   have HROW : Hid (∀ k, k < pl -> ∃ bl ol, ap = some ⟨bl, ol, none⟩ /\ W1.cell? ⟨bl, ol + k, none⟩ = some (.int .i64 (zat ps k))) := fun k hk => by
    obtain ⟨b, o, e1, e2, e3⟩ := (HS.out W1 (Below.refl _ _)).2.2.2.1.row k (by rw [<- hpq]; exact hk)
    exact ⟨b, o, e1, e3⟩
   rw [<- hpq]
   clear hpq
   go_wp2_with fail
   go_loop [26] (fun iv => ∃ k : Nat, k <= pl /\ iv = .int .i64 k /\ Hid (∀ j, 0 < j -> j < k -> zat ps (j - 1) < zat ps j)) (fun iv => pl - (intOf iv).toNat)
   case atStart => exact ⟨0, by omega, rfl, fun j _ hj => by omega⟩
   case round =>
    obtain ⟨k, hk, rfl, hC⟩ := hrel
    by_cases hlt : k < pl
    ·have hlt2 : (k : Int) < (pl : Int) := by omega
     have hks : IntKind.i64.wrap ((k : Int) + 1) = (k : Int) + 1 := by rw [IntKind.wrap_i64]; omega
     obtain ⟨bl, ol, rfl, hcl⟩ := HROW.out k hlt
     by_cases hk0 : k = 0
     ·subst hk0
      rw [Nat.add_zero] at hcl
      have HE : Hid (∀ j, 0 < j -> j < 0 + 1 -> zat ps (j - 1) < zat ps j) := fun j h1 h2 => by omega
      clear hC
      go_wp2_with fail
      go_round
      case rel => exact ⟨0 + 1, by omega, by go_num, HE⟩
      case measure => simp [intOf]; omega
     ·have hk1 : (0 : Int) < (k : Int) := by omega
      obtain ⟨bl', ol', e1, hcl'⟩ := HROW.out (k - 1) (by omega)
      cases e1
      have hkm : (k : Int) - 1 = ((k - 1 : Nat) : Int) := by omega
      have hkm2 : ((k - 1 : Nat) : Int) < (pl : Int) := by omega
      have HV : Hid (∀ j, j = k - 1 -> zat ps j = zat ps (k - 1)) := fun j h => by rw [h]
      by_cases hge : zat ps k <= zat ps (k - 1)
      ·have HNO : Hid (¬ shwn N ps rows nodes) := fun h => by
        have := (h.2.1 k (by rw [<- HPQ.out]; exact hlt)).2.2 (by omega)
        omega
       clear hC
       obtain ⟨k', rfl⟩ : ∃ k', k = k' + 1 := ⟨k - 1, by omega⟩
       simp only [Nat.add_sub_cancel] at hge hcl' hkm hkm2
       generalize zat ps (k' + 1) = x at *
       generalize zat ps k' = y at *
       go_wp2_with fail
       go_ret
       exact ShwnR.no HNO.out HB1.out
      ·have HE : Hid (∀ j, 0 < j -> j < k + 1 -> zat ps (j - 1) < zat ps j) := fun j h1 h2 => by
        rcases Nat.lt_or_ge j k with h' | h'
        ·exact hC.out j h1 h'
        ·rw [show j = k by omega]; omega
       clear hC
       have hge2 : ¬ zat ps k <= zat ps (k - 1) := hge
       obtain ⟨k', rfl⟩ : ∃ k', k = k' + 1 := ⟨k - 1, by omega⟩
       simp only [Nat.add_sub_cancel] at hge2 hge hcl' hkm hkm2
       generalize zat ps (k' + 1) = x at *
       generalize zat ps k' = y at *
       go_wp2_with fail
       go_round
       case rel => exact ⟨k' + 1 + 1, by omega, by go_num, HE⟩
       case measure => simp [intOf]; omega
    ·obtain rfl : k = pl := by omega
     have HASC : Hid (AscN (N : Int) ps) := fun j hj => ⟨(HIN.out _ (zat_mem hj)).1, (HIN.out _ (zat_mem hj)).2, fun h => hC.out j h (by rw [HPQ.out]; exact hj)⟩
     clear hC
     obtain ⟨nl, hnq⟩ := exE (nodes.length)
     rw [<- hnq] at k2 hnl
     have HNQ := hid hnq
     have HROW2 : Hid (∀ j, j < nl -> ∃ bl ol ak ck, an' = some ⟨bl, ol, none⟩ /\ W1.cell? ⟨bl, ol + j, none⟩ = some (.slice ak (rat nodes j).length ck)) := fun j hj => by
      obtain ⟨b, o, ak, ck, e1, e2, e3, _⟩ := (HS.out W1 (Below.refl _ _)).2.2.2.2.1.row j (by rw [<- hnq]; exact hj)
      exact ⟨b, o, ak, ck, e1, e3⟩
     rw [<- hnq]
     clear hnq
     go_wp2_with fail
     go_loop [47] (fun iv => ∃ j : Nat, j <= nl /\ iv = .int .i64 j /\ Hid (∀ i, i < j -> (rat nodes i).length = 4)) (fun iv => nl - (intOf iv).toNat)
     case atStart => exact ⟨0, by omega, rfl, fun i hi => by omega⟩
     case round =>
      obtain ⟨j, hj, rfl, hD⟩ := hrel
      by_cases hlt2 : j < nl
      ·have hlt3 : (j : Int) < (nl : Int) := by omega
       have hks : IntKind.i64.wrap ((j : Int) + 1) = (j : Int) + 1 := by rw [IntKind.wrap_i64]; omega
       obtain ⟨bl, ol, ak, ck, rfl, hcl⟩ := HROW2.out j hlt2
       have hdg := isdigest_any ak (rat nodes j).length ck W1
       by_cases h4 : (rat nodes j).length = 4
       ·rw [decide_eq_true h4, h4] at hdg
        rw [h4] at hcl
        have HE : Hid (∀ i, i < j + 1 -> (rat nodes i).length = 4) := fun i hi => by
         rcases Nat.lt_or_ge i j with h' | h'
         ·exact hD.out i h'
         ·rw [show i = j by omega]; exact h4
        have HDG := hid hdg
        clear hD hdg h4
        go_wp2_with fail
        refine HDG.out.mono ?_
        rintro e w5 ⟨rfl, rfl⟩
        go_wp2_with fail
        go_round
        case rel => exact ⟨j + 1, by omega, by go_num, HE⟩
        case measure => simp [intOf]; omega
       ·rw [decide_eq_false h4] at hdg
        have HNO : Hid (¬ shwn N ps rows nodes) := fun h => h4 (h.2.2.1 j (by rw [<- HNQ.out]; exact hlt2))
        have HDG := hid hdg
        generalize (rat nodes j).length = ln at *
        clear hD hdg h4
        go_wp2_with fail
        refine HDG.out.mono ?_
        rintro e w5 ⟨rfl, rfl⟩
        go_wp2_with fail
        go_ret
        exact ShwnR.no HNO.out HB1.out
      ·obtain rfl : j = nl := by omega
       have HSEG := hid (seg_all (N := N) HIN.out)
       have HHI : Hid (Calls Tryz.prog 161 #[.agg #[.int .i64 0, .int .i64 (N : Int)], .slice ap k cp] W1 fun e w' => ∃ v, e = .returned v /\ OwnG W1.heap.size w' v (hd2 ps N 0 N) /\ Below W1.heap.size W1 w') := by
        have := hidden_any ps (asc_of HASC.out) N 0 N h1 (Nat.le_refl _) (by omega) cp ap W1 (by rw [HSEG.out]; exact (HS.out W1 (Below.refl _ _)).2.2.2.1)
        rw [HSEG.out, <- HPQ.out, Nat.zero_add] at this
        exact this
       have HF4 : Hid (∀ i, i < nodes.length -> (rat nodes i).length = 4) := fun i hi => hD.out i (by rw [HNQ.out]; exact hi)
       clear hD
       obtain ⟨hl, hhl⟩ := exE ((hd2 ps N 0 N).length)
       have HHL := hid hhl
       have HHJ : Hid (∀ W, W = W1.drew -> Calls Tryz.prog 161 #[.agg #[.int .i64 0, .int .i64 (N : Int)], .slice ap k cp] W fun e w' => ∃ av c5, e = .returned (.slice av hl c5) /\ Below W1.heap.size W1 w') := fun W hW => by
        subst hW
        have hd1 : Below W1.heap.size W1 W1.drew := (Below.refl _ _).drew
        have := hidden_any ps (asc_of HASC.out) N 0 N h1 (Nat.le_refl _) (by omega) cp ap W1.drew (by rw [HSEG.out]; exact (HS.out _ hd1).2.2.2.1)
        rw [HSEG.out, <- HPQ.out, Nat.zero_add] at this
        refine this.mono ?_
        rintro e w5 ⟨v, rfl, hov, hb5⟩
        rcases hov.2 with ⟨rfl, h0⟩ | ⟨g5, c5, _, rfl, _⟩
        ·exact ⟨none, 0, by rw [hhl, h0], hd1.trans hb5⟩
        ·exact ⟨_, _, by rw [hhl], hd1.trans hb5⟩
       clear hhl HHI HSEG
       have HKe : Hid (∀ W, Below W1.heap.size W1 W -> W.cell? ⟨w.heap.size + 1, 0, none⟩ = some (.slice ap k cp) /\ W.cell? ⟨w.heap.size + 1, 2, none⟩ = some (.slice an' j cn) /\ W.cell? ⟨w.heap.size, 0, none⟩ = some (.int .i64 0) /\ W.cell? ⟨w.heap.size, 1, none⟩ = some (.int .i64 (N : Int))) := fun W h => by
        obtain ⟨a1, a2, a3, _⟩ := HS.out W h
        exact ⟨by rw [a1.c0, HPQ.out], by rw [a1.c2, HNQ.out], a2, a3⟩
       have hd1 : Below W1.heap.size W1 W1.drew := (Below.refl _ _).drew
       go_wp2_with fail
       go_region_held3 (fun W => W.cell? ⟨w.heap.size + 1, 0, none⟩ = some (.slice ap k cp) /\ W.cell? ⟨w.heap.size + 1, 2, none⟩ = some (.slice an' j cn) /\ W.cell? ⟨w.heap.size, 0, none⟩ = some (.int .i64 0) /\ W.cell? ⟨w.heap.size, 1, none⟩ = some (.int .i64 (N : Int))) (exact HKe.out _ (by assumption))
        (first
         | (go_at_call 161; refine (HHJ.out _ rfl).mono ?_; rintro e w5 ⟨av, c5, rfl, hb5⟩))
       have HB5 := hid ((HS.out w5 hb5).2.2.2.2.2)
       go_wp2_with fail
       go_ret
       refine ShwnR.mk ((j : Int) == (hl : Int)) ?_ HB5.out
       rw [beq_iff_eq]
       constructor
       ·intro h
        exact ⟨HRP.out, HASC.out, HF4.out, by rw [<- HNQ.out, <- HHL.out]; omega⟩
       ·intro h
        have := h.2.2.2
        rw [<- HNQ.out, <- HHL.out] at this
        omega
 ·have hrp2 : ((rows.length : Int) != (ps.length : Int)) = true := by simp; omega
  have HRP := hid hrp
  clear hrp
  go_enter Tryz.func217, Tryz.ntmps217
  go_wp2_with fail
  go_ret
  exact ShwnR.no (fun h => HRP.out h.1) (((Below.refl _ _).alloc (Nat.le_refl _) _).alloc (by simp) _)
end Go.Proofs.YtlhjifpomchnfaaGreatDoor
