/- Package tree: hidden. Package tree: slices.ContainsFunc of a group's lacks. Package tree: isShown. Package tree: joined, hash, seeRow. Package tree: a walk's root. Package tree: a walk's root, where it is not found. Package tree: a walk's root, where it is not found: both its parts' roots. Package tree: a walk's root. Package tree: checked, where it is not taken. Two digests compared. Package tree: checked, where it is right by its form. Package tree: Check. -/
import Derived.Test.YtfppkjpgihnibaaGreatDoorTrgs
import Derived.Test.YtfppkjpgihnibaaGreatDoorHeldS
import Derived.Test.YtfppkjpgihnibaaGreatDoorTres
import Derived.Test.YtfppkjpgihnibaaGreatDoorSpgH
import Derived.Test.YtfppkjpgihnibaaGreatDoorOrdInv
namespace Go.Proofs.YtfppkjpgihnibaaGreatDoor
open Go.RowKit

/-- groups, as cells -/
def gcs (l : List (Nat × Nat)) : List Value := l.flatMap (fun g => [Value.int .i64 (g.1 : Int), Value.int .i64 (g.2 : Int)])
theorem gcs_len (l : List (Nat × Nat)) : (gcs l).length = l.length * 2 := by
  induction l with
  | nil => rfl
  | cons g l ih => simp only [gcs, List.flatMap_cons, List.length_append, List.length_cons, List.length_nil] at *; omega
theorem gcs_append (l l' : List (Nat × Nat)) : gcs (l ++ l') = gcs l ++ gcs l' := by simp [gcs]
theorem gcs_one (l : List (Nat × Nat)) : ∀ u ∈ gcs l, u.oneCell' = true := fun u hu => by
  obtain ⟨g, _, hg⟩ := List.mem_flatMap.1 hu
  simp at hg
  rcases hg with rfl | rfl <;> rfl
/-- groups of the call's own -/
def OwnG (base : Nat) (w : World) (v : Value) (l : List (Nat × Nat)) : Prop := w.ownsRow base 212 2 v l.length (gcs l)
theorem OwnG.nil (base : Nat) (w : World) : OwnG base w (.slice none 0 0) [] := World.ownsRow_nil _ _ _ _
theorem OwnG.keep {base : Nat} {w w' : World} {v : Value} {l : List (Nat × Nat)} (h : OwnG base w v l) (e : Below w.heap.size w w') : OwnG base w' v l := by
  refine World.ownsRow.kept h (w' := w') (row := none) ⟨e.os, e.tape, e.output, e.size, fun k hk _ => e.block k hk⟩ ?_
  cases v.ownBlock with
  | none => exact .inl rfl
  | some k => exact .inr (by simp)
theorem OwnG.mono {base base' : Nat} {w : World} {v : Value} {l : List (Nat × Nat)} (h : OwnG base w v l) (e : base' ≤ base) : OwnG base' w v l := World.ownsRow.mono h e

theorem run_appG (W : World) (base : Nat) (v v2 : Value) (l1 l2 : List (Nat × Nat)) (h1 : OwnG base W v l1) (h2 : OwnG base W v2 l2) (hlen : l1.length + l2.length ≤ 2000000) (hbase : base ≤ W.heap.size) :
    ∃ v' w', (Builtin.append_ #[219, 219] 219 #[v, v2]).run Tryz.prog W = .ok v' w' ∧ OwnG base w' v' (l1 ++ l2) ∧ Below base W w' := by
  have hinf : (Tryz.prog.info? 212).map (fun i => (i.zero, i.size, i.bytes)) = some (some (.agg #[.int .i64 0, .int .i64 0]), 2, 16) := by kernel_rfl
  obtain ⟨i0, hi, hz0, hz1, hz2⟩ := info_parts hinf
  have h1' : W.ownsRow base 212 2 v l1.length (gcs l1) := h1
  rcases h2.2 with ⟨rfl, h0⟩ | ⟨g, cap, cur, rfl, hb, hg, hn, hm, hsz, ht⟩
  · have hl2 : l2 = [] := List.length_eq_zero_iff.1 h0
    refine ⟨v, W, run_append_owned_none (P := Tryz.prog) (w := W) base 219 219 212 i0 2 Tryz.underlying219 hi v l1.length (gcs l1) h1', ?_, Below.refl _ _⟩
    rw [hl2, List.append_nil]
    exact h1
  · obtain ⟨v', w2, hr, hown2, hgrow, _⟩ := run_append_own (P := Tryz.prog) W base 219 219 212 i0 (.agg #[.int .i64 0, .int .i64 0]) 2 16 Tryz.underlying219 hi hz0 hz1 hz2 rfl (by decide) v l1.length (gcs l1) h1' ⟨g, 0, none⟩ l2.length cap (gcs l2) (gcs_len l2) (by
      intro j u hu
      have hj : j < l2.length * 2 := by
        rw [← gcs_len]
        exact (List.getElem?_eq_some_iff.1 hu).1
      have hadd : (⟨g, 0, none⟩ : Addr).add j = ⟨g, 0 + j, none⟩ := by unfold Addr.add; split <;> simp_all
      rw [hadd, Nat.zero_add]
      unfold World.cell?
      rw [show W.heap[(⟨g, j, none⟩ : Addr).block]? = some (.cells cur 212 (0, 0)) from hg]
      show cur[j]? = some u
      rw [← hu, ← ht, List.getElem?_take, if_pos hj]
      simp) (gcs_one l2) (by unfold maxLen; omega) (by omega) hbase
    refine ⟨v', w2, hr, ?_, (Below.refl base W).grown hgrow hbase (fun k hk => (World.ownsRow.lt h1' k hk).1)⟩
    show w2.ownsRow base 212 2 v' (l1 ++ l2).length (gcs (l1 ++ l2))
    rw [List.length_append, gcs_append]
    exact hown2

theorem wp_append_run {o : Oper} {act : Act} {K : Act → World → Prop} {Q : Exit → Act → World → Prop} {W : World} (s x : Operand) (t ty : TypeId) (ho : o.op = .call { callee := .builtin .append, args := #[s, x], argTypes := #[t, t] }) (hty : o.type = ty) (v v2 v' : Value) (w' : World)
    (hr : (Builtin.append_ #[t, t] ty #[v, v2]).run Tryz.prog W = .ok v' w') (hs : act.eval s = v) (hx : act.eval x = v2) (h : K (act.put o.dst v') w') : o.wp Tryz.prog act W K Q := by
  subst hty
  unfold Oper.wp execOp
  simp only [ho, resolve, invoke, builtin, Sem.run_bind, Sem.run_pure, Result.andThen_ok, List.map_toArray, List.map_cons, List.map_nil, hs, hx, hr]
  exact h

theorem seg_count {ps : List Int} {a b m : Int} (h2 : m ≤ b) : (seg ps a b).countP (fun x => decide (x < m)) = (seg ps a m).length := by
  rw [List.countP_eq_length_filter, seg_left ps h2]
set_option maxRecDepth 100000 in
set_option maxHeartbeats 2000000 in
theorem hidden_any (ps : List Int) (hA : Asc ps) : ∀ (k a c : Nat), 1 ≤ c → c ≤ k → a + c ≤ 1000000 → ∀ (cap : Nat) (av : Option Addr) (w : World), Lst w.heap.size w av cap (seg ps (a : Int) ((a : Int) + (c : Int))) →
    Calls Tryz.prog 169 #[gk a (a + c), .slice av (seg ps (a : Int) ((a : Int) + (c : Int))).length cap] w fun e w' => ∃ v, e = .returned v ∧ OwnG w.heap.size w' v (hd2 ps k a c) ∧ Below w.heap.size w w' := by
  intro k
  induction k with
  | zero => intro a c h1 h2; omega
  | succ k ih =>
    intro a c h1 h2 h3 cap av w hl
    have HIH := hid ih
    have HA := hid hA
    have HL := hid hl
    have hlen := seg_le hA (a : Int) c
    obtain ⟨n, hn⟩ : ∃ n, n = (seg ps (a : Int) ((a : Int) + (c : Int))).length := ⟨_, rfl⟩
    rw [← hn] at hlen ⊢
    have HN := hid hn
    obtain ⟨b, hb⟩ : ∃ b, b = a + c := ⟨_, rfl⟩
    rw [← hb]
    have HB := hid hb
    have hsub : (b : Int) - (a : Int) = (c : Int) := by omega
    clear ih hl hA
    unfold gk
    by_cases hn0 : n = 0
    · have e0 : ((n : Int) == 0) = true := by rw [beq_iff_eq]; omega
      have HD : Hid (hd2 ps (k + 1) a c = [(a, b)]) := by unfold Hid; rw [hb]; exact hd2_none (seg_nil.1 (by omega))
      clear hn hb
      go_enter Tryz.func169, Tryz.ntmps169
      go_wp2_with fail
      go_ret
      refine ⟨_, rfl, ?_, ((Below.refl _ _).alloc (Nat.le_refl _) _).alloc (by simp) _⟩
      rw [HD.out]
      refine ⟨by simp [gcs], .inr ⟨w.heap.size + 1, 1, #[.int .i64 (a : Int), .int .i64 (b : Int)], rfl, by omega, ?_, Nat.le_refl _, by unfold maxLen; omega, rfl, by simp [gcs]⟩⟩
      have := heap_alloc_new (w.alloc (.cells #[.int .i64 (a : Int), .int .i64 (b : Int)] 212)) (.cells #[.int .i64 (a : Int), .int .i64 (b : Int)] 212)
      rwa [show (w.alloc (.cells #[.int .i64 (a : Int), .int .i64 (b : Int)] 212)).heap.size = w.heap.size + 1 from by simp] at this
    · have e0 : ((n : Int) == 0) = false := by rw [beq_eq_false_iff_ne]; omega
      by_cases hnc : n = c
      · have e1 : ((n : Int) == (c : Int)) = true := by rw [beq_iff_eq]; omega
        have HD : Hid (hd2 ps (k + 1) a c = []) := hd2_full HA.out (k + 1) a c h1 h2 (by rw [← hn]; exact hnc)
        clear hn hb hnc hn0
        go_enter Tryz.func169, Tryz.ntmps169
        go_wp2_with fail
        go_ret
        refine ⟨_, rfl, ?_, (Below.refl _ _).alloc (Nat.le_refl _) _⟩
        rw [HD.out]
        exact OwnG.nil _ _
      · have e1 : ((n : Int) == (c : Int)) = false := by rw [beq_eq_false_iff_ne]; omega
        obtain ⟨l1, l2, l3⟩ := lft_spec c
        have l3' := l3 (by omega)
        clear l1
        obtain ⟨m, hm⟩ : ∃ m, m = a + lft c := ⟨_, rfl⟩
        obtain ⟨n1, hn1⟩ : ∃ n1, n1 = (seg ps (a : Int) (m : Int)).length := ⟨_, rfl⟩
        have hsp := seg_split HA.out (a := (a : Int)) (m := (m : Int)) (b := (a : Int) + (c : Int)) (by omega) (by omega)
        have hn1n : n1 ≤ n := by rw [hn, hsp, List.length_append, ← hn1]; omega
        have hn2 : (seg ps (m : Int) (b : Int)).length = n - n1 := by
          have := congrArg List.length hsp
          rw [List.length_append, ← hn, ← hn1] at this
          rw [show (b : Int) = (a : Int) + (c : Int) by omega]
          omega
        have HD : Hid (hd2 ps (k + 1) a c = hd2 ps k a (lft c) ++ hd2 ps k m (b - m)) := by
          unfold Hid
          rw [hd2_part (fun e => hn0 (by rw [hn]; exact seg_nil.2 e)) (by omega), hm, hb, show a + c - (a + lft c) = c - lft c by omega]
        have hmx : Tryz.prog.follows .mixedOrders = true := by kernel_rfl
        obtain ⟨bb, oo, hav, hbb⟩ : ∃ bb oo, av = some ⟨bb, oo, none⟩ ∧ bb < w.heap.size := by
          obtain ⟨bb, oo, h1, h2, _⟩ := HL.out.row 0 (by rw [← hn]; omega)
          exact ⟨bb, oo, h1, h2⟩
        subst hav
        have hcn : n ≤ cap := by have := HL.out.room; rwa [← hn] at this
        have HPT : Hid (∀ W, Calls Tryz.prog 214 #[.agg #[.int .i64 (a : Int), .int .i64 (b : Int)]] W fun e w' => e = .returned (.tuple #[.agg #[.int .i64 (a : Int), .int .i64 (m : Int)], .agg #[.int .i64 (m : Int), .int .i64 (b : Int)]]) ∧ Below W.heap.size W w') := fun W => by rw [hm]; exact parts_any a b c hb (by omega) W
        have HBS : Hid (∀ W, Below w.heap.size w W → Calls Tryz.prog 112 #[.slice (some ⟨bb, oo, none⟩) n cap, .int .i64 (m : Int)] W fun e w' => ∃ t, e = .returned (.tuple #[.int .i64 (n1 : Int), .bool t]) ∧ Below W.heap.size W w') := fun W hW => by
          have := Tryz.search_any bb oo n cap (seg ps (a : Int) ((a : Int) + (c : Int))) (m : Int) W (by omega) (by omega) (fun j hj => by
            obtain ⟨b', o', e1, e2, e3⟩ := HL.out.row j hj
            cases e1
            rw [hW.cell (p := ⟨bb, oo + j, none⟩) hbb, e3, zat_cf]) (by rw [hn, List.take_length]; exact (seg_asc HA.out _ _).imp (fun h => Int.le_of_lt h))
          rw [hn, List.take_length, seg_count (by omega), ← hn1, ← hn] at this
          refine this.mono ?_
          rintro e w' ⟨rfl, qq, rfl⟩
          exact ⟨_, rfl, rfl, rfl, rfl, Nat.le_refl _, fun _ _ => rfl⟩
        have hL1 : Lst w.heap.size w (some ⟨bb, oo, none⟩) cap (seg ps (a : Int) (m : Int)) := ⟨fun j hj => by
            obtain ⟨b', o', e1, e2, e3⟩ := HL.out.row j (by rw [hsp, List.length_append]; omega)
            refine ⟨b', o', e1, e2, e3.trans ?_⟩
            rw [hsp]
            simp [zat, List.getElem?_append_left hj], by omega, fun e => by cases e⟩
        have hL2 : ∀ o2, (cap = n1 ∨ o2 = oo + n1) → Lst w.heap.size w (some ⟨bb, o2, none⟩) (cap - n1) (seg ps (m : Int) (b : Int)) := fun o2 ho2 => ⟨fun j hj => by
            have ho3 : o2 = oo + n1 := by rcases ho2 with h | h <;> omega
            subst ho3
            rw [show (b : Int) = (a : Int) + (c : Int) by omega] at hj
            obtain ⟨b', o', e1, e2, e3⟩ := HL.out.row (n1 + j) (by rw [hsp, List.length_append]; omega)
            cases e1
            refine ⟨bb, oo + n1, rfl, hbb, ?_⟩
            rw [Nat.add_assoc, e3, hsp, show (b : Int) = (a : Int) + (c : Int) by omega]
            simp only [zat]
            rw [List.getElem?_append_right (by omega), hn1, Nat.add_sub_cancel_left], by omega, fun e => by cases e⟩
        have HC1 : Hid (∀ W, Below w.heap.size w W → Calls Tryz.prog 169 #[.agg #[.int .i64 (a : Int), .int .i64 (m : Int)], .slice (some ⟨bb, oo, none⟩) n1 cap] W fun e w' => ∃ v, e = .returned v ∧ Hid (OwnG W.heap.size w' v (hd2 ps k a (lft c))) ∧ Below W.heap.size W w') := fun W hW => by
          have := HIH.out a (lft c) (by omega) (by omega) (by omega) cap (some ⟨bb, oo, none⟩) W (by rw [show (a : Int) + (lft c : Int) = (m : Int) by omega]; exact (hL1.below hW).mono hW.size)
          rw [show (a : Int) + (lft c : Int) = (m : Int) by omega, ← hn1, ← hm] at this
          exact this
        have HC2 : Hid (∀ (o2 : Nat) (W : World), (cap = n1 ∨ o2 = oo + n1) → Below w.heap.size w W → Calls Tryz.prog 169 #[.agg #[.int .i64 (m : Int), .int .i64 (b : Int)], .slice (some ⟨bb, o2, none⟩) (n - n1) (cap - n1)] W fun e w' => ∃ v, e = .returned v ∧ Hid (OwnG W.heap.size w' v (hd2 ps k m (b - m))) ∧ Below W.heap.size W w') := fun o2 W ho2 hW => by
          have := HIH.out m (b - m) (by omega) (by omega) (by omega) (cap - n1) (some ⟨bb, o2, none⟩) W (by rw [show (m : Int) + ((b - m : Nat) : Int) = (b : Int) by omega]; exact ((hL2 o2 ho2).below hW).mono hW.size)
          rw [show (m : Int) + ((b - m : Nat) : Int) = (b : Int) by omega, hn2, show m + (b - m) = b by omega] at this
          exact this
        have hl1l : (hd2 ps k a (lft c)).length ≤ 1000000 := by have := hd2_len ps k a (lft c) (by omega) (by omega); omega
        have hl2l : (hd2 ps k m (b - m)).length ≤ 1000000 := by have := hd2_len ps k m (b - m) (by omega) (by omega); omega
        rw [HD.out]
        generalize hd2 ps k a (lft c) = G1 at *
        generalize hd2 ps k m (b - m) = G2 at *
        clear hn hb hm hn1 hn2 HIH HA HL HN HB hsp hnc hn0 HD hL1 hL2 l2 l3 l3' hlen h1 h2
        by_cases hk : cap = n1
        · obtain rfl : n = n1 := by omega
          subst hk
          have HC2q : Hid (∀ W, Below w.heap.size w W → Calls Tryz.prog 169 #[.agg #[.int .i64 (m : Int), .int .i64 (b : Int)], .slice (some ⟨bb, oo, none⟩) 0 0] W fun e w' => ∃ v, e = .returned v ∧ Hid (OwnG W.heap.size w' v G2) ∧ Below W.heap.size W w') := fun W hW => by
            have := HC2.out oo W (.inl rfl) hW
            rwa [Nat.sub_self] at this
          go_enter Tryz.func169, Tryz.ntmps169
          go_wp2_with fail
          have HB0 : Hid (Below w.heap.size w (w.alloc (.cells #[.int .i64 (a : Int), .int .i64 (b : Int)] 212))) := (Below.refl _ _).alloc (Nat.le_refl _) _
          refine (HPT.out _).mono ?_
          rintro e w1 ⟨rfl, hb1⟩
          have HB1 : Hid (Below w.heap.size w w1) := HB0.out.trans (hb1.mono HB0.out.size)
          clear hb1
          go_wp2_with fail
          have HB2 : Hid (Below w.heap.size w ((w1.alloc (.cells #[.int .i64 (a : Int), .int .i64 (m : Int)] 212)).alloc (.cells #[.int .i64 (m : Int), .int .i64 (b : Int)] 212))) := (HB1.out.alloc HB1.out.size _).alloc (by have := HB1.out.size; simp; omega) _
          have HLc := hid ((duo_new w1 212 (.int .i64 (a : Int)) (.int .i64 (m : Int))).alloc (.cells #[.int .i64 (m : Int), .int .i64 (b : Int)] 212))
          have HRc : Hid (((w1.alloc (.cells #[.int .i64 (a : Int), .int .i64 (m : Int)] 212)).alloc (.cells #[.int .i64 (m : Int), .int .i64 (b : Int)] 212)).rowIs (w1.heap.size + 1) 212 2 (duo (.int .i64 (m : Int)) (.int .i64 (b : Int)))) := by
            have := duo_new (w1.alloc (.cells #[.int .i64 (a : Int), .int .i64 (m : Int)] 212)) 212 (.int .i64 (m : Int)) (.int .i64 (b : Int))
            rwa [show (w1.alloc (.cells #[.int .i64 (a : Int), .int .i64 (m : Int)] 212)).heap.size = w1.heap.size + 1 from by simp] at this
          generalize (w1.alloc (.cells #[.int .i64 (a : Int), .int .i64 (m : Int)] 212)).alloc (.cells #[.int .i64 (m : Int), .int .i64 (b : Int)] 212) = W2 at *
          have hbs := HBS.out W2 HB2.out
          refine hbs.mono ?_
          clear hbs
          rintro e w3 ⟨tt, rfl, hb3⟩
          have HLc3 := hid (HLc.out.of_block (hb3.block _ HLc.out.lt))
          have HRc3 := hid (HRc.out.of_block (hb3.block _ HRc.out.lt))
          have HB3 : Hid (Below w.heap.size w w3) := HB2.out.trans (hb3.mono HB2.out.size)
          clear hb3 HLc HRc HB2 HB1 HB0
          go_wp2_with fail
          have HKe : Hid (∀ W, Below w3.heap.size w3 W → W.cell? ⟨w1.heap.size, 0, none⟩ = some (.int .i64 (a : Int)) ∧ W.cell? ⟨w1.heap.size, 1, none⟩ = some (.int .i64 (m : Int)) ∧ W.cell? ⟨w1.heap.size + 1, 0, none⟩ = some (.int .i64 (m : Int)) ∧ W.cell? ⟨w1.heap.size + 1, 1, none⟩ = some (.int .i64 (b : Int))) := fun W h =>
            ⟨(h.cell (p := ⟨w1.heap.size, 0, none⟩) HLc3.out.lt).trans (HLc3.out.cell (i := 0) (by omega)), (h.cell (p := ⟨w1.heap.size, 1, none⟩) HLc3.out.lt).trans (HLc3.out.cell (i := 1) (by omega)), (h.cell (p := ⟨w1.heap.size + 1, 0, none⟩) HRc3.out.lt).trans (HRc3.out.cell (i := 0) (by omega)), (h.cell (p := ⟨w1.heap.size + 1, 1, none⟩) HRc3.out.lt).trans (HRc3.out.cell (i := 1) (by omega))⟩
          have HC1' : Hid (∀ W, Below w3.heap.size w3 W → Calls Tryz.prog 169 #[.agg #[.int .i64 (a : Int), .int .i64 (m : Int)], .slice (some ⟨bb, oo, none⟩) cap cap] W fun e w' => ∃ v, e = .returned v ∧ Hid (OwnG w3.heap.size w' v G1) ∧ Below w3.heap.size w3 w') := fun W hW => by
            refine (HC1.out W (HB3.out.trans (hW.mono HB3.out.size))).mono ?_
            rintro e w' ⟨v, rfl, h1, h2⟩
            exact ⟨v, rfl, h1.out.mono hW.size, hW.trans (h2.mono hW.size)⟩
          have HC2' : Hid (∀ (W : World) (v1 : Value), Hid (OwnG w3.heap.size W v1 G1) → Below w3.heap.size w3 W → Calls Tryz.prog 169 #[.agg #[.int .i64 (m : Int), .int .i64 (b : Int)], .slice (some ⟨bb, oo, none⟩) 0 0] W fun e w' => ∃ v, e = .returned v ∧ Below w3.heap.size w3 w' ∧ ∃ v' w4, (Builtin.append_ #[219, 219] 219 #[v1, v]).run Tryz.prog w' = .ok v' w4 ∧ Hid (OwnG w3.heap.size w4 v' (G1 ++ G2)) ∧ Below w3.heap.size w3 w4) := fun W v1 h0 hW => by
            refine (HC2q.out W (HB3.out.trans (hW.mono HB3.out.size))).mono ?_
            rintro e w' ⟨v, rfl, h1, h2⟩
            obtain ⟨v', w4, r1, r2, r3⟩ := run_appG w' w3.heap.size v1 v G1 G2 (h0.out.keep h2) (h1.out.mono hW.size) (by omega) (by have := hW.size; have := h2.size; omega)
            exact ⟨v, rfl, hW.trans (h2.mono hW.size), v', w4, r1, r2, (hW.trans (h2.mono hW.size)).trans r3⟩
          have hb30 : Below w3.heap.size w3 w3.drew := (Below.refl _ _).drew
          clear HC1 HC2 HC2q HPT HBS
          have hC0 := HKe.out _ hb30
          refine wp_region_S (C := fun W => W.cell? ⟨w1.heap.size, 0, none⟩ = some (.int .i64 (a : Int)) ∧ W.cell? ⟨w1.heap.size, 1, none⟩ = some (.int .i64 (m : Int)) ∧ W.cell? ⟨w1.heap.size + 1, 0, none⟩ = some (.int .i64 (m : Int)) ∧ W.cell? ⟨w1.heap.size + 1, 1, none⟩ = some (.int .i64 (b : Int))) (st := [11]) hmx ?_
          show wpAnyS _ _ _ _ _ _ 12 (Array.replicate 12 false) _ _
          refine wpAnyS_take (i := 0) (v := (.agg #[.int .i64 (a : Int), .int .i64 (m : Int)])) rfl (by kernel_rfl) (by kernel_rfl) (by kernel_rfl) (by kernel_rfl) (by kernel_rfl) (by kernel_rfl) (fun _ _ _ h => h) (Or.inl ⟨by rfl, fun W hC => ?_⟩) hC0 ?_
          · obtain ⟨g0, g1, g2, g3⟩ := hC
            go_simp
          refine wpAnyS_pure (i := 1) (v := (.slice (some ⟨bb, oo, none⟩) cap cap)) rfl (by kernel_rfl) (by kernel_rfl) (by kernel_rfl) (by kernel_rfl) (fun _ _ _ h => h) (Or.inl ⟨by rfl, fun W _ => ?_⟩) (fun _ => hC0) ?_
          · go_simp
          refine wpAnyS_pure (i := 2) (v := (.int .i64 (cap : Int))) rfl (by kernel_rfl) (by kernel_rfl) (by kernel_rfl) (by kernel_rfl) (fun _ _ _ h => h) (Or.inl ⟨by rfl, fun W _ => ?_⟩) (fun _ => hC0) ?_
          · go_simp
          refine wpAnyS_pure (i := 3) (v := (.slice (some ⟨bb, oo, none⟩) cap cap)) rfl (by kernel_rfl) (by kernel_rfl) (by kernel_rfl) (by kernel_rfl) (fun _ _ _ h => h) (Or.inl ⟨by rfl, fun W _ => ?_⟩) (fun _ => hC0) ?_
          · go_simp
          refine wpAnyS_take (i := 5) (v := (.agg #[.int .i64 (m : Int), .int .i64 (b : Int)])) rfl (by kernel_rfl) (by kernel_rfl) (by kernel_rfl) (by kernel_rfl) (by kernel_rfl) (by kernel_rfl) (fun _ _ _ h => h) (Or.inl ⟨by rfl, fun W hC => ?_⟩) hC0 ?_
          · obtain ⟨g0, g1, g2, g3⟩ := hC
            go_simp
          refine wpAnyS_pure (i := 6) (v := (.slice (some ⟨bb, oo, none⟩) cap cap)) rfl (by kernel_rfl) (by kernel_rfl) (by kernel_rfl) (by kernel_rfl) (fun _ _ _ h => h) (Or.inl ⟨by rfl, fun W _ => ?_⟩) (fun _ => hC0) ?_
          · go_simp
          refine wpAnyS_pure (i := 7) (v := (.int .i64 (cap : Int))) rfl (by kernel_rfl) (by kernel_rfl) (by kernel_rfl) (by kernel_rfl) (fun _ _ _ h => h) (Or.inl ⟨by rfl, fun W _ => ?_⟩) (fun _ => hC0) ?_
          · go_simp
          refine wpAnyS_pure (i := 8) (v := (.slice (some ⟨bb, oo, none⟩) 0 0)) rfl (by kernel_rfl) (by kernel_rfl) (by kernel_rfl) (by kernel_rfl) (fun _ _ _ h => h) (Or.inl ⟨by rfl, fun W _ => ?_⟩) (fun _ => hC0) ?_
          · go_simp
          refine wpAnyS_one (i := 4) (by kernel_rfl) ?_
          refine wpOp_step rfl (fun K' hK' => ?_)
          rw [if_pos (by rfl)]
          go_simp
          refine (HC1'.out _ hb30).mono ?_
          rintro e w' ⟨v1, rfl, hown1, hbv1⟩
          refine hK' _ _ ⟨fun _ => HKe.out _ hbv1, ?_⟩
          clear hK' K'
          refine wpAnyS_one (i := 9) (by kernel_rfl) ?_
          refine wpOp_step rfl (fun K' hK' => ?_)
          rw [if_pos (by rfl)]
          go_simp
          refine (HC2'.out _ _ hown1 hbv1).mono ?_
          rintro e w' ⟨v2, rfl, hbv2, v', w4, hrun, hown4, hb5⟩
          refine hK' _ _ ⟨fun _ => HKe.out _ hbv2, ?_⟩
          clear hK' K'
          refine wpAnyS_one (i := 10) (by kernel_rfl) ?_
          refine wpOp_step rfl (fun K' hK' => ?_)
          rw [if_pos (by rfl)]
          refine wp_append_run _ _ _ _ rfl rfl _ _ _ _ hrun rfl rfl ?_
          refine hK' _ _ ⟨fun _ => HKe.out _ hb5, ?_⟩
          clear hK' K'
          refine wpAnyS_one (i := 11) (by kernel_rfl) ?_
          refine wpOp_step rfl (fun K' hK' => ?_)
          rw [if_pos (by rfl)]
          go_simp
          refine hK' _ _ ⟨fun h => absurd (h 11 (by simp)) (by decide), ?_⟩
          clear hK' K'
          refine wpAnyS_done (by kernel_rfl) ?_ _
          go_wp2_with fail
          go_ret
          exact ⟨_, rfl, hown4.out.mono HB3.out.size, HB3.out.trans (hb5.mono HB3.out.size)⟩
        · have hk2 : ¬ (cap : Int) = (n1 : Int) := by omega
          have hk3 : ¬ (n1 : Int) = (cap : Int) := by omega
          have hk4 : (n1 : Int) < (cap : Int) := by omega
          have hcn2 : (n : Int) ≤ (cap : Int) := by omega
          have hn1n2 : (n1 : Int) ≤ (n : Int) := by omega
          have hn1n3 : (n1 : Int) ≤ (cap : Int) := by omega
          go_enter Tryz.func169, Tryz.ntmps169
          go_wp2_with fail
          have HB0 : Hid (Below w.heap.size w (w.alloc (.cells #[.int .i64 (a : Int), .int .i64 (b : Int)] 212))) := (Below.refl _ _).alloc (Nat.le_refl _) _
          refine (HPT.out _).mono ?_
          rintro e w1 ⟨rfl, hb1⟩
          have HB1 : Hid (Below w.heap.size w w1) := HB0.out.trans (hb1.mono HB0.out.size)
          clear hb1
          go_wp2_with fail
          have HB2 : Hid (Below w.heap.size w ((w1.alloc (.cells #[.int .i64 (a : Int), .int .i64 (m : Int)] 212)).alloc (.cells #[.int .i64 (m : Int), .int .i64 (b : Int)] 212))) := (HB1.out.alloc HB1.out.size _).alloc (by have := HB1.out.size; simp; omega) _
          have HLc := hid ((duo_new w1 212 (.int .i64 (a : Int)) (.int .i64 (m : Int))).alloc (.cells #[.int .i64 (m : Int), .int .i64 (b : Int)] 212))
          have HRc : Hid (((w1.alloc (.cells #[.int .i64 (a : Int), .int .i64 (m : Int)] 212)).alloc (.cells #[.int .i64 (m : Int), .int .i64 (b : Int)] 212)).rowIs (w1.heap.size + 1) 212 2 (duo (.int .i64 (m : Int)) (.int .i64 (b : Int)))) := by
            have := duo_new (w1.alloc (.cells #[.int .i64 (a : Int), .int .i64 (m : Int)] 212)) 212 (.int .i64 (m : Int)) (.int .i64 (b : Int))
            rwa [show (w1.alloc (.cells #[.int .i64 (a : Int), .int .i64 (m : Int)] 212)).heap.size = w1.heap.size + 1 from by simp] at this
          generalize (w1.alloc (.cells #[.int .i64 (a : Int), .int .i64 (m : Int)] 212)).alloc (.cells #[.int .i64 (m : Int), .int .i64 (b : Int)] 212) = W2 at *
          have hbs := HBS.out W2 HB2.out
          refine hbs.mono ?_
          clear hbs
          rintro e w3 ⟨tt, rfl, hb3⟩
          have HLc3 := hid (HLc.out.of_block (hb3.block _ HLc.out.lt))
          have HRc3 := hid (HRc.out.of_block (hb3.block _ HRc.out.lt))
          have HB3 : Hid (Below w.heap.size w w3) := HB2.out.trans (hb3.mono HB2.out.size)
          clear hb3 HLc HRc HB2 HB1 HB0
          go_wp2_with fail
          have HKe : Hid (∀ W, Below w3.heap.size w3 W → W.cell? ⟨w1.heap.size, 0, none⟩ = some (.int .i64 (a : Int)) ∧ W.cell? ⟨w1.heap.size, 1, none⟩ = some (.int .i64 (m : Int)) ∧ W.cell? ⟨w1.heap.size + 1, 0, none⟩ = some (.int .i64 (m : Int)) ∧ W.cell? ⟨w1.heap.size + 1, 1, none⟩ = some (.int .i64 (b : Int))) := fun W h =>
            ⟨(h.cell (p := ⟨w1.heap.size, 0, none⟩) HLc3.out.lt).trans (HLc3.out.cell (i := 0) (by omega)), (h.cell (p := ⟨w1.heap.size, 1, none⟩) HLc3.out.lt).trans (HLc3.out.cell (i := 1) (by omega)), (h.cell (p := ⟨w1.heap.size + 1, 0, none⟩) HRc3.out.lt).trans (HRc3.out.cell (i := 0) (by omega)), (h.cell (p := ⟨w1.heap.size + 1, 1, none⟩) HRc3.out.lt).trans (HRc3.out.cell (i := 1) (by omega))⟩
          have HC1' : Hid (∀ W, Below w3.heap.size w3 W → Calls Tryz.prog 169 #[.agg #[.int .i64 (a : Int), .int .i64 (m : Int)], .slice (some ⟨bb, oo, none⟩) n1 cap] W fun e w' => ∃ v, e = .returned v ∧ Hid (OwnG w3.heap.size w' v G1) ∧ Below w3.heap.size w3 w') := fun W hW => by
            refine (HC1.out W (HB3.out.trans (hW.mono HB3.out.size))).mono ?_
            rintro e w' ⟨v, rfl, h1, h2⟩
            exact ⟨v, rfl, h1.out.mono hW.size, hW.trans (h2.mono hW.size)⟩
          have HC2' : Hid (∀ (W : World) (v1 : Value), Hid (OwnG w3.heap.size W v1 G1) → Below w3.heap.size w3 W → Calls Tryz.prog 169 #[.agg #[.int .i64 (m : Int), .int .i64 (b : Int)], .slice (some ⟨bb, oo + n1, none⟩) (n - n1) (cap - n1)] W fun e w' => ∃ v, e = .returned v ∧ Below w3.heap.size w3 w' ∧ ∃ v' w4, (Builtin.append_ #[219, 219] 219 #[v1, v]).run Tryz.prog w' = .ok v' w4 ∧ Hid (OwnG w3.heap.size w4 v' (G1 ++ G2)) ∧ Below w3.heap.size w3 w4) := fun W v1 h0 hW => by
            refine (HC2.out (oo + n1) W (.inr rfl) (HB3.out.trans (hW.mono HB3.out.size))).mono ?_
            rintro e w' ⟨v, rfl, h1, h2⟩
            obtain ⟨v', w4, r1, r2, r3⟩ := run_appG w' w3.heap.size v1 v G1 G2 (h0.out.keep h2) (h1.out.mono hW.size) (by omega) (by have := hW.size; have := h2.size; omega)
            exact ⟨v, rfl, hW.trans (h2.mono hW.size), v', w4, r1, r2, (hW.trans (h2.mono hW.size)).trans r3⟩
          have hb30 : Below w3.heap.size w3 w3.drew := (Below.refl _ _).drew
          clear HC1 HC2 HPT HBS
          have hC0 := HKe.out _ hb30
          refine wp_region_S (C := fun W => W.cell? ⟨w1.heap.size, 0, none⟩ = some (.int .i64 (a : Int)) ∧ W.cell? ⟨w1.heap.size, 1, none⟩ = some (.int .i64 (m : Int)) ∧ W.cell? ⟨w1.heap.size + 1, 0, none⟩ = some (.int .i64 (m : Int)) ∧ W.cell? ⟨w1.heap.size + 1, 1, none⟩ = some (.int .i64 (b : Int))) (st := [11]) hmx ?_
          show wpAnyS _ _ _ _ _ _ 12 (Array.replicate 12 false) _ _
          refine wpAnyS_take (i := 0) (v := (.agg #[.int .i64 (a : Int), .int .i64 (m : Int)])) rfl (by kernel_rfl) (by kernel_rfl) (by kernel_rfl) (by kernel_rfl) (by kernel_rfl) (by kernel_rfl) (fun _ _ _ h => h) (Or.inl ⟨by rfl, fun W hC => ?_⟩) hC0 ?_
          · obtain ⟨g0, g1, g2, g3⟩ := hC
            go_simp
          refine wpAnyS_pure (i := 1) (v := (.slice (some ⟨bb, oo, none⟩) n cap)) rfl (by kernel_rfl) (by kernel_rfl) (by kernel_rfl) (by kernel_rfl) (fun _ _ _ h => h) (Or.inl ⟨by rfl, fun W _ => ?_⟩) (fun _ => hC0) ?_
          · go_simp
          refine wpAnyS_pure (i := 2) (v := (.int .i64 (n1 : Int))) rfl (by kernel_rfl) (by kernel_rfl) (by kernel_rfl) (by kernel_rfl) (fun _ _ _ h => h) (Or.inl ⟨by rfl, fun W _ => ?_⟩) (fun _ => hC0) ?_
          · go_simp
          refine wpAnyS_pure (i := 3) (v := (.slice (some ⟨bb, oo, none⟩) n1 cap)) rfl (by kernel_rfl) (by kernel_rfl) (by kernel_rfl) (by kernel_rfl) (fun _ _ _ h => h) (Or.inl ⟨by rfl, fun W _ => ?_⟩) (fun _ => hC0) ?_
          · go_simp
          refine wpAnyS_take (i := 5) (v := (.agg #[.int .i64 (m : Int), .int .i64 (b : Int)])) rfl (by kernel_rfl) (by kernel_rfl) (by kernel_rfl) (by kernel_rfl) (by kernel_rfl) (by kernel_rfl) (fun _ _ _ h => h) (Or.inl ⟨by rfl, fun W hC => ?_⟩) hC0 ?_
          · obtain ⟨g0, g1, g2, g3⟩ := hC
            go_simp
          refine wpAnyS_pure (i := 6) (v := (.slice (some ⟨bb, oo, none⟩) n cap)) rfl (by kernel_rfl) (by kernel_rfl) (by kernel_rfl) (by kernel_rfl) (fun _ _ _ h => h) (Or.inl ⟨by rfl, fun W _ => ?_⟩) (fun _ => hC0) ?_
          · go_simp
          refine wpAnyS_pure (i := 7) (v := (.int .i64 (n1 : Int))) rfl (by kernel_rfl) (by kernel_rfl) (by kernel_rfl) (by kernel_rfl) (fun _ _ _ h => h) (Or.inl ⟨by rfl, fun W _ => ?_⟩) (fun _ => hC0) ?_
          · go_simp
          refine wpAnyS_pure (i := 8) (v := (.slice (some ⟨bb, oo + n1, none⟩) (n - n1) (cap - n1))) rfl (by kernel_rfl) (by kernel_rfl) (by kernel_rfl) (by kernel_rfl) (fun _ _ _ h => h) (Or.inl ⟨by rfl, fun W _ => ?_⟩) (fun _ => hC0) ?_
          · go_simp
          refine wpAnyS_one (i := 4) (by kernel_rfl) ?_
          refine wpOp_step rfl (fun K' hK' => ?_)
          rw [if_pos (by rfl)]
          go_simp
          refine (HC1'.out _ hb30).mono ?_
          rintro e w' ⟨v1, rfl, hown1, hbv1⟩
          refine hK' _ _ ⟨fun _ => HKe.out _ hbv1, ?_⟩
          clear hK' K'
          refine wpAnyS_one (i := 9) (by kernel_rfl) ?_
          refine wpOp_step rfl (fun K' hK' => ?_)
          rw [if_pos (by rfl)]
          go_simp
          refine (HC2'.out _ _ hown1 hbv1).mono ?_
          rintro e w' ⟨v2, rfl, hbv2, v', w4, hrun, hown4, hb5⟩
          refine hK' _ _ ⟨fun _ => HKe.out _ hbv2, ?_⟩
          clear hK' K'
          refine wpAnyS_one (i := 10) (by kernel_rfl) ?_
          refine wpOp_step rfl (fun K' hK' => ?_)
          rw [if_pos (by rfl)]
          refine wp_append_run _ _ _ _ rfl rfl _ _ _ _ hrun rfl rfl ?_
          refine hK' _ _ ⟨fun _ => HKe.out _ hb5, ?_⟩
          clear hK' K'
          refine wpAnyS_one (i := 11) (by kernel_rfl) ?_
          refine wpOp_step rfl (fun K' hK' => ?_)
          rw [if_pos (by rfl)]
          go_simp
          refine hK' _ _ ⟨fun h => absurd (h 11 (by simp)) (by decide), ?_⟩
          clear hK' K'
          refine wpAnyS_done (by kernel_rfl) ?_ _
          go_wp2_with fail
          go_ret
          exact ⟨_, rfl, hown4.out.mono HB3.out.size, HB3.out.trans (hb5.mono HB3.out.size)⟩

end Go.Proofs.YtfppkjpgihnibaaGreatDoor

namespace Go.Proofs.YtfppkjpgihnibaaGreatDoor
open Go.RowKit

def lackb (a b : Nat) (x : Int) : Bool := decide (x < (a : Int)) || decide ((b : Int) ≤ x)
theorem any_of {a b : Nat} {l : List Int} {k : Nat} (hk : k < l.length) (h : lackb a b (zat l k) = true) : l.any (lackb a b) = true := List.any_eq_true.2 ⟨zat l k, zat_mem hk, h⟩
theorem any_not {a b : Nat} {l : List Int} (h : ∀ j, j < l.length → lackb a b (zat l j) = false) : l.any (lackb a b) = false := by
  rw [List.any_eq_false]
  intro x hx
  obtain ⟨j, hj, rfl⟩ := mem_zat hx
  rw [h j hj]
  simp

set_option maxRecDepth 100000 in
set_option maxHeartbeats 2000000 in
theorem index_any (a b : Nat) (cap : Nat) (av : Option Addr) (l : List Int) (w : World) (hlen : l.length ≤ 281474976710656) (hrow : RowB w.heap.size w av l) :
    Calls Tryz.prog 188 #[.slice av l.length cap, .func (Fn.func 162) #[.agg #[.int .i64 (a : Int), .int .i64 (b : Int)]] #[]] w fun e w' => (∃ r : Int, e = .returned (.int .i64 r) ∧ decide (0 ≤ r) = l.any (lackb a b)) ∧ Below w.heap.size w w' := by
  have HR := hid hrow
  obtain ⟨n, hn⟩ : ∃ n, n = l.length := ⟨_, rfl⟩
  rw [← hn] at hlen ⊢
  have HN := hid hn
  clear hrow hn
  have HLA : Hid (∀ (x : Int) (W : World), Calls Tryz.prog 162 #[.agg #[.int .i64 (a : Int), .int .i64 (b : Int)], .int .i64 x] W fun e w' => e = .returned (.bool (lackb a b x)) ∧ Below W.heap.size W w') := fun x W => lacks_any a b x W
  go_enter Tryz.func188, Tryz.ntmps188
  go_wp2_with fail
  go_loopw [8] (fun iv wr => ∃ k : Nat, k ≤ n ∧ iv = .int .i64 k ∧ Hid ((∀ j, j < k → lackb a b (zat l j) = false) ∧ Below w.heap.size w wr)) (fun iv _ => n - (intOf iv).toNat)
  case atStart => exact ⟨0, by omega, rfl, fun j hj => by omega, Below.refl _ _⟩
  case round =>
    obtain ⟨k, hk, rfl, hC⟩ := hrel
    by_cases hlt : k < n
    · have hlt2 : (k : Int) < (n : Int) := by omega
      have hks : IntKind.i64.wrap ((k : Int) + 1) = (k : Int) + 1 := by rw [IntKind.wrap_i64]; omega
      obtain ⟨bl, ol, rfl, hbl', hcl⟩ := HR.out k (by rw [← HN.out]; exact hlt)
      have hcl2 := (hC.out.2.cell (p := ⟨bl, ol + k, none⟩) hbl').trans hcl
      have HB := hid hC.out.2
      have HP := hid hC.out.1
      have hLA := HLA.out (zat l k) wr
      have HZ : Hid (lackb a b (zat l k) = true → l.any (lackb a b) = true) := fun h => any_of (by rw [← HN.out]; exact hlt) h
      have HZ2 : Hid (lackb a b (zat l k) = false → ∀ j, j < k + 1 → lackb a b (zat l j) = false) := fun h j hj => by
        rcases Nat.lt_or_ge j k with h' | h'
        · exact HP.out j h'
        · rw [show j = k by omega]; exact h
      clear hcl hbl' hC
      generalize zat l k = x at *
      cases hb : lackb a b x with
      | true =>
        rw [hb] at hLA
        have hLA2 := hid hLA
        clear hLA
        go_wp2_with fail
        refine hLA2.out.mono ?_
        rintro e w1 ⟨rfl, hb1⟩
        have HE : Hid (Below w.heap.size w w1) := HB.out.trans (hb1.mono HB.out.size)
        have HZ3 := hid (HZ.out hb)
        clear hb1
        go_wp2_with fail
        go_ret
        refine ⟨⟨(k : Int), rfl, ?_⟩, HE.out⟩
        rw [HZ3.out]
        simp
      | false =>
        rw [hb] at hLA
        have hLA2 := hid hLA
        clear hLA
        go_wp2_with fail
        refine hLA2.out.mono ?_
        rintro e w1 ⟨rfl, hb1⟩
        have HE : Hid ((∀ j, j < k + 1 → lackb a b (zat l j) = false) ∧ Below w.heap.size w w1) := ⟨HZ2.out hb, HB.out.trans (hb1.mono HB.out.size)⟩
        clear hb1
        go_wp2_with fail
        go_roundw
        case rel => exact ⟨k + 1, by omega, by go_num, HE⟩
        case measure => simp [intOf]; omega
    · obtain rfl : k = n := by omega
      have HE := hC
      clear hC
      go_wp2_with fail
      go_ret
      refine ⟨⟨-1, rfl, ?_⟩, HE.out.2⟩
      rw [any_not (fun j hj => HE.out.1 j (by rw [HN.out]; exact hj))]
      simp

set_option maxRecDepth 100000 in
theorem contains_any (a b : Nat) (cap : Nat) (av : Option Addr) (l : List Int) (w : World) (hlen : l.length ≤ 281474976710656) (hrow : RowB w.heap.size w av l) :
    Calls Tryz.prog 117 #[.slice av l.length cap, .func (Fn.func 162) #[.agg #[.int .i64 (a : Int), .int .i64 (b : Int)]] #[]] w fun e w' => e = .returned (.bool (l.any (lackb a b))) ∧ Below w.heap.size w w' := by
  have HI := hid (index_any a b cap av l w hlen hrow)
  clear hrow
  go_enter Tryz.func117, Tryz.ntmps117
  go_wp2_with fail
  refine HI.out.mono ?_
  rintro e w1 ⟨⟨r, rfl, hr⟩, hb⟩
  have HRR := hid hr
  have HB := hid hb
  clear hr hb
  go_wp2_with fail
  go_ret
  exact ⟨by rw [← HRR.out]; rfl, HB.out⟩

end Go.Proofs.YtfppkjpgihnibaaGreatDoor

namespace Go.Proofs.YtfppkjpgihnibaaGreatDoor
open Go.RowKit

theorem seg_all {ps : List Int} {N : Nat} (h : ∀ x ∈ ps, 0 ≤ x ∧ x < (N : Int)) : seg ps ((0 : Nat) : Int) (((0 : Nat) : Int) + (N : Int)) = ps := by
  unfold seg
  rw [List.filter_eq_self]
  intro x hx
  have := h x hx
  simp
  omega
theorem lack_all {ps : List Int} {N : Nat} (h : ps.any (lackb 0 N) = false) : ∀ x ∈ ps, 0 ≤ x ∧ x < (N : Int) := fun x hx => by
  have := List.any_eq_false.1 h x hx
  simp [lackb] at this
  omega

def ShwnR (N : Nat) (ps : List Int) (rows nodes : List (List Int)) (w : World) (e : Ending) (w' : World) : Prop := (∃ t, e = .returned (.bool t) ∧ (t = true ↔ shwn N ps rows nodes)) ∧ Below w.heap.size w w'
theorem ShwnR.no {N : Nat} {ps : List Int} {rows nodes : List (List Int)} {w w' : World} (h : ¬ shwn N ps rows nodes) (hb : Below w.heap.size w w') : ShwnR N ps rows nodes w (.returned (.bool false)) w' := ⟨⟨false, rfl, by simp; exact h⟩, hb⟩
theorem ShwnR.mk {N : Nat} {ps : List Int} {rows nodes : List (List Int)} {w w' : World} (t : Bool) (h : t = true ↔ shwn N ps rows nodes) (hb : Below w.heap.size w w') : ShwnR N ps rows nodes w (.returned (.bool t)) w' := ⟨⟨t, rfl, h⟩, hb⟩
/-- an Opening in memory -/
structure OpnAt (W : World) (O cp cr cn : Nat) (ap ar an' : Option Addr) (ps : List Int) (rows nodes : List (List Int)) : Prop where
  c0 : W.cell? ⟨O, 0, none⟩ = some (.slice ap ps.length cp)
  c1 : W.cell? ⟨O, 1, none⟩ = some (.slice ar rows.length cr)
  c2 : W.cell? ⟨O, 2, none⟩ = some (.slice an' nodes.length cn)

set_option maxRecDepth 100000 in
set_option maxHeartbeats 2000000 in
theorem isshown_any (N : Nat) (cp cr cn : Nat) (ap ar an' : Option Addr) (ps : List Int) (rows nodes : List (List Int)) (w : World) (h1 : 1 ≤ N) (hN : N ≤ 65536) (hpl : ps.length ≤ 281474976710656) (hnl : nodes.length ≤ 281474976710656) (hp : Lst w.heap.size w ap cp ps) (hn : LstR w.heap.size w an' cn nodes) :
    Calls Tryz.prog 224 #[gk 0 N, .agg #[.slice ap ps.length cp, .slice ar rows.length cr, .slice an' nodes.length cn]] w (ShwnR N ps rows nodes w) := by
  unfold gk
  have HL := hid hp
  have HNL := hid hn
  clear hp hn
  by_cases hrp : rows.length = ps.length
  · have hrp2 : ((rows.length : Int) != (ps.length : Int)) = false := by simp; omega
    have HRP := hid hrp
    clear hrp
    have HCO : Hid (∀ W, Below w.heap.size w W → Calls Tryz.prog 117 #[.slice ap ps.length cp, .func (Fn.func 162) #[.agg #[.int .i64 0, .int .i64 (N : Int)]] #[]] W fun e w' => e = .returned (.bool (ps.any (lackb 0 N))) ∧ Below W.heap.size W w') := fun W h => contains_any 0 N cp ap ps W hpl ((HL.out.row.below h).mono h.size)
    go_enter Tryz.func224, Tryz.ntmps224
    go_wp2_with fail
    have HO := hid (show OpnAt ((w.alloc (.cells #[.int .i64 0, .int .i64 (N : Int)] 212)).alloc (.cells #[.slice ap ps.length cp, .slice ar rows.length cr, .slice an' nodes.length cn] 107)) (w.heap.size + 1) cp cr cn ap ar an' ps rows nodes from by
      have h3 := tri_new (w.alloc (.cells #[.int .i64 0, .int .i64 (N : Int)] 212)) 107 (.slice ap ps.length cp) (.slice ar rows.length cr) (.slice an' nodes.length cn)
      rw [show (w.alloc (.cells #[.int .i64 0, .int .i64 (N : Int)] 212)).heap.size = w.heap.size + 1 from by simp] at h3
      exact ⟨h3.cell (i := 0) (by omega), h3.cell (i := 1) (by omega), h3.cell (i := 2) (by omega)⟩)
    have HG := hid ((duo_new w 212 (.int .i64 0) (.int .i64 (N : Int))).alloc (.cells #[.slice ap ps.length cp, .slice ar rows.length cr, .slice an' nodes.length cn] 107))
    have HB0 : Hid (Below w.heap.size w ((w.alloc (.cells #[.int .i64 0, .int .i64 (N : Int)] 212)).alloc (.cells #[.slice ap ps.length cp, .slice ar rows.length cr, .slice an' nodes.length cn] 107))) := ((Below.refl _ _).alloc (Nat.le_refl _) _).alloc (by simp) _
    have hs0 : ((w.alloc (.cells #[.int .i64 0, .int .i64 (N : Int)] 212)).alloc (.cells #[.slice ap ps.length cp, .slice ar rows.length cr, .slice an' nodes.length cn] 107)).heap.size = w.heap.size + 2 := by simp
    generalize (w.alloc (.cells #[.int .i64 0, .int .i64 (N : Int)] 212)).alloc (.cells #[.slice ap ps.length cp, .slice ar rows.length cr, .slice an' nodes.length cn] 107) = W0 at *
    refine (HCO.out W0 HB0.out).mono ?_
    rintro e W1 ⟨rfl, hb1⟩
    have HB1 : Hid (Below w.heap.size w W1) := HB0.out.trans (hb1.mono HB0.out.size)
    have HS : Hid (∀ W, Below W1.heap.size W1 W → OpnAt W (w.heap.size + 1) cp cr cn ap ar an' ps rows nodes ∧ W.cell? ⟨w.heap.size, 0, none⟩ = some (.int .i64 0) ∧ W.cell? ⟨w.heap.size, 1, none⟩ = some (.int .i64 (N : Int)) ∧ Lst W.heap.size W ap cp ps ∧ LstR W.heap.size W an' cn nodes ∧ Below w.heap.size w W) := fun W h => by
      have hb2 : Below W0.heap.size W0 W := hb1.trans (h.mono hb1.size)
      have hb3 := HB0.out.trans (hb2.mono HB0.out.size)
      exact ⟨⟨(hb2.cell (p := ⟨w.heap.size + 1, 0, none⟩) (by show w.heap.size + 1 < _; omega)).trans HO.out.c0, (hb2.cell (p := ⟨w.heap.size + 1, 1, none⟩) (by show w.heap.size + 1 < _; omega)).trans HO.out.c1, (hb2.cell (p := ⟨w.heap.size + 1, 2, none⟩) (by show w.heap.size + 1 < _; omega)).trans HO.out.c2⟩,
        (hb2.cell (p := ⟨w.heap.size, 0, none⟩) (by show w.heap.size < _; omega)).trans (HG.out.cell (i := 0) (by omega)), (hb2.cell (p := ⟨w.heap.size, 1, none⟩) (by show w.heap.size < _; omega)).trans (HG.out.cell (i := 1) (by omega)), (HL.out.below hb3).mono hb3.size, (HNL.out.below hb3).mono hb3.size, hb3⟩
    clear hb1 HO HG HB0 hs0 HCO
    cases hany : ps.any (lackb 0 N) with
    | true =>
      have HNO : Hid (¬ shwn N ps rows nodes) := fun h => by
        obtain ⟨x, hx, hl⟩ := List.any_eq_true.1 hany
        obtain ⟨j, hj, rfl⟩ := mem_zat hx
        have := h.2.1 j hj
        simp [lackb] at hl
        omega
      clear hany
      go_wp2_with fail
      go_ret
      exact ShwnR.no HNO.out HB1.out
    | false =>
      have HIN := hid (lack_all hany)
      clear hany
      have hO1 := (HS.out W1 (Below.refl _ _)).1
      have hg0 := (HS.out W1 (Below.refl _ _)).2.1
      have hg1 := (HS.out W1 (Below.refl _ _)).2.2.1
      have k0 := hO1.c0
      have k2 := hO1.c2
      clear hO1
      obtain ⟨pl, hpq⟩ : ∃ pl, pl = ps.length := ⟨_, rfl⟩
      rw [← hpq] at k0 hpl
      have HPQ := hid hpq
      have HROW : Hid (∀ k, k < pl → ∃ bl ol, ap = some ⟨bl, ol, none⟩ ∧ W1.cell? ⟨bl, ol + k, none⟩ = some (.int .i64 (zat ps k))) := fun k hk => by
        obtain ⟨b, o, e1, e2, e3⟩ := (HS.out W1 (Below.refl _ _)).2.2.2.1.row k (by rw [← hpq]; exact hk)
        exact ⟨b, o, e1, e3⟩
      rw [← hpq]
      clear hpq
      go_wp2_with fail
      go_loop [26] (fun iv => ∃ k : Nat, k ≤ pl ∧ iv = .int .i64 k ∧ Hid (∀ j, 0 < j → j < k → zat ps (j - 1) < zat ps j)) (fun iv => pl - (intOf iv).toNat)
      case atStart => exact ⟨0, by omega, rfl, fun j _ hj => by omega⟩
      case round =>
        obtain ⟨k, hk, rfl, hC⟩ := hrel
        by_cases hlt : k < pl
        · have hlt2 : (k : Int) < (pl : Int) := by omega
          have hks : IntKind.i64.wrap ((k : Int) + 1) = (k : Int) + 1 := by rw [IntKind.wrap_i64]; omega
          obtain ⟨bl, ol, rfl, hcl⟩ := HROW.out k hlt
          by_cases hk0 : k = 0
          · subst hk0
            rw [Nat.add_zero] at hcl
            have HE : Hid (∀ j, 0 < j → j < 0 + 1 → zat ps (j - 1) < zat ps j) := fun j h1 h2 => by omega
            clear hC
            go_wp2_with fail
            go_round
            case rel => exact ⟨0 + 1, by omega, by go_num, HE⟩
            case measure => simp [intOf]; omega
          · have hk1 : (0 : Int) < (k : Int) := by omega
            obtain ⟨bl', ol', e1, hcl'⟩ := HROW.out (k - 1) (by omega)
            cases e1
            have hkm : (k : Int) - 1 = ((k - 1 : Nat) : Int) := by omega
            have hkm2 : ((k - 1 : Nat) : Int) < (pl : Int) := by omega
            have HV : Hid (∀ j, j = k - 1 → zat ps j = zat ps (k - 1)) := fun j h => by rw [h]
            by_cases hge : zat ps k ≤ zat ps (k - 1)
            · have HNO : Hid (¬ shwn N ps rows nodes) := fun h => by
                have := (h.2.1 k (by rw [← HPQ.out]; exact hlt)).2.2 (by omega)
                omega
              clear hC
              obtain ⟨k', rfl⟩ : ∃ k', k = k' + 1 := ⟨k - 1, by omega⟩
              simp only [Nat.add_sub_cancel] at hge hcl' hkm hkm2
              generalize zat ps (k' + 1) = x at *
              generalize zat ps k' = y at *
              go_wp2_with fail
              go_ret
              exact ShwnR.no HNO.out HB1.out
            · have HE : Hid (∀ j, 0 < j → j < k + 1 → zat ps (j - 1) < zat ps j) := fun j h1 h2 => by
                rcases Nat.lt_or_ge j k with h' | h'
                · exact hC.out j h1 h'
                · rw [show j = k by omega]; omega
              clear hC
              have hge2 : ¬ zat ps k ≤ zat ps (k - 1) := hge
              obtain ⟨k', rfl⟩ : ∃ k', k = k' + 1 := ⟨k - 1, by omega⟩
              simp only [Nat.add_sub_cancel] at hge2 hge hcl' hkm hkm2
              generalize zat ps (k' + 1) = x at *
              generalize zat ps k' = y at *
              go_wp2_with fail
              go_round
              case rel => exact ⟨k' + 1 + 1, by omega, by go_num, HE⟩
              case measure => simp [intOf]; omega
        · obtain rfl : k = pl := by omega
          have HASC : Hid (AscN (N : Int) ps) := fun j hj => ⟨(HIN.out _ (zat_mem hj)).1, (HIN.out _ (zat_mem hj)).2, fun h => hC.out j h (by rw [HPQ.out]; exact hj)⟩
          clear hC
          obtain ⟨nl, hnq⟩ : ∃ nl, nl = nodes.length := ⟨_, rfl⟩
          rw [← hnq] at k2 hnl
          have HNQ := hid hnq
          have HROW2 : Hid (∀ j, j < nl → ∃ bl ol ak ck, an' = some ⟨bl, ol, none⟩ ∧ W1.cell? ⟨bl, ol + j, none⟩ = some (.slice ak (rat nodes j).length ck)) := fun j hj => by
            obtain ⟨b, o, ak, ck, e1, e2, e3, _⟩ := (HS.out W1 (Below.refl _ _)).2.2.2.2.1.row j (by rw [← hnq]; exact hj)
            exact ⟨b, o, ak, ck, e1, e3⟩
          rw [← hnq]
          clear hnq
          go_wp2_with fail
          go_loop [47] (fun iv => ∃ j : Nat, j ≤ nl ∧ iv = .int .i64 j ∧ Hid (∀ i, i < j → (rat nodes i).length = 4)) (fun iv => nl - (intOf iv).toNat)
          case atStart => exact ⟨0, by omega, rfl, fun i hi => by omega⟩
          case round =>
            obtain ⟨j, hj, rfl, hD⟩ := hrel
            by_cases hlt2 : j < nl
            · have hlt3 : (j : Int) < (nl : Int) := by omega
              have hks : IntKind.i64.wrap ((j : Int) + 1) = (j : Int) + 1 := by rw [IntKind.wrap_i64]; omega
              obtain ⟨bl, ol, ak, ck, rfl, hcl⟩ := HROW2.out j hlt2
              have hdg := isdigest_any ak (rat nodes j).length ck W1
              by_cases h4 : (rat nodes j).length = 4
              · rw [decide_eq_true h4, h4] at hdg
                rw [h4] at hcl
                have HE : Hid (∀ i, i < j + 1 → (rat nodes i).length = 4) := fun i hi => by
                  rcases Nat.lt_or_ge i j with h' | h'
                  · exact hD.out i h'
                  · rw [show i = j by omega]; exact h4
                have HDG := hid hdg
                clear hD hdg h4
                go_wp2_with fail
                refine HDG.out.mono ?_
                rintro e w5 ⟨rfl, rfl⟩
                go_wp2_with fail
                go_round
                case rel => exact ⟨j + 1, by omega, by go_num, HE⟩
                case measure => simp [intOf]; omega
              · rw [decide_eq_false h4] at hdg
                have HNO : Hid (¬ shwn N ps rows nodes) := fun h => h4 (h.2.2.1 j (by rw [← HNQ.out]; exact hlt2))
                have HDG := hid hdg
                generalize (rat nodes j).length = ln at *
                clear hD hdg h4
                go_wp2_with fail
                refine HDG.out.mono ?_
                rintro e w5 ⟨rfl, rfl⟩
                go_wp2_with fail
                go_ret
                exact ShwnR.no HNO.out HB1.out
            · obtain rfl : j = nl := by omega
              have HSEG := hid (seg_all (N := N) HIN.out)
              have HHI : Hid (Calls Tryz.prog 169 #[.agg #[.int .i64 0, .int .i64 (N : Int)], .slice ap k cp] W1 fun e w' => ∃ v, e = .returned v ∧ OwnG W1.heap.size w' v (hd2 ps N 0 N) ∧ Below W1.heap.size W1 w') := by
                have := hidden_any ps (asc_of HASC.out) N 0 N h1 (Nat.le_refl _) (by omega) cp ap W1 (by rw [HSEG.out]; exact (HS.out W1 (Below.refl _ _)).2.2.2.1)
                rw [HSEG.out, ← HPQ.out, Nat.zero_add] at this
                exact this
              have HF4 : Hid (∀ i, i < nodes.length → (rat nodes i).length = 4) := fun i hi => hD.out i (by rw [HNQ.out]; exact hi)
              clear hD
              obtain ⟨hl, hhl⟩ : ∃ hl, hl = (hd2 ps N 0 N).length := ⟨_, rfl⟩
              have HHL := hid hhl
              have HHJ : Hid (∀ W, W = W1.drew → Calls Tryz.prog 169 #[.agg #[.int .i64 0, .int .i64 (N : Int)], .slice ap k cp] W fun e w' => ∃ av c5, e = .returned (.slice av hl c5) ∧ Below W1.heap.size W1 w') := fun W hW => by
                subst hW
                have hd1 : Below W1.heap.size W1 W1.drew := (Below.refl _ _).drew
                have := hidden_any ps (asc_of HASC.out) N 0 N h1 (Nat.le_refl _) (by omega) cp ap W1.drew (by rw [HSEG.out]; exact (HS.out _ hd1).2.2.2.1)
                rw [HSEG.out, ← HPQ.out, Nat.zero_add] at this
                refine this.mono ?_
                rintro e w5 ⟨v, rfl, hov, hb5⟩
                rcases hov.2 with ⟨rfl, h0⟩ | ⟨g5, c5, _, rfl, _⟩
                · exact ⟨none, 0, by rw [hhl, h0], hd1.trans hb5⟩
                · exact ⟨_, _, by rw [hhl], hd1.trans hb5⟩
              clear hhl HHI HSEG
              have HKe : Hid (∀ W, Below W1.heap.size W1 W → W.cell? ⟨w.heap.size + 1, 0, none⟩ = some (.slice ap k cp) ∧ W.cell? ⟨w.heap.size + 1, 2, none⟩ = some (.slice an' j cn) ∧ W.cell? ⟨w.heap.size, 0, none⟩ = some (.int .i64 0) ∧ W.cell? ⟨w.heap.size, 1, none⟩ = some (.int .i64 (N : Int))) := fun W h => by
                obtain ⟨a1, a2, a3, _⟩ := HS.out W h
                exact ⟨by rw [a1.c0, HPQ.out], by rw [a1.c2, HNQ.out], a2, a3⟩
              have hd1 : Below W1.heap.size W1 W1.drew := (Below.refl _ _).drew
              go_wp2_with fail
              go_region_held3 (fun W => W.cell? ⟨w.heap.size + 1, 0, none⟩ = some (.slice ap k cp) ∧ W.cell? ⟨w.heap.size + 1, 2, none⟩ = some (.slice an' j cn) ∧ W.cell? ⟨w.heap.size, 0, none⟩ = some (.int .i64 0) ∧ W.cell? ⟨w.heap.size, 1, none⟩ = some (.int .i64 (N : Int))) (exact HKe.out _ (by assumption))
                (first
                  | (go_at_call 169; refine (HHJ.out _ rfl).mono ?_; rintro e w5 ⟨av, c5, rfl, hb5⟩))
              have HB5 := hid ((HS.out w5 hb5).2.2.2.2.2)
              go_wp2_with fail
              go_ret
              refine ShwnR.mk ((j : Int) == (hl : Int)) ?_ HB5.out
              rw [beq_iff_eq]
              constructor
              · intro h
                exact ⟨HRP.out, HASC.out, HF4.out, by rw [← HNQ.out, ← HHL.out]; omega⟩
              · intro h
                have := h.2.2.2
                rw [← HNQ.out, ← HHL.out] at this
                omega
  · have hrp2 : ((rows.length : Int) != (ps.length : Int)) = true := by simp; omega
    have HRP := hid hrp
    clear hrp
    go_enter Tryz.func224, Tryz.ntmps224
    go_wp2_with fail
    go_ret
    exact ShwnR.no (fun h => HRP.out h.1) (((Below.refl _ _).alloc (Nat.le_refl _) _).alloc (by simp) _)

end Go.Proofs.YtfppkjpgihnibaaGreatDoor

namespace Go.Proofs.YtfppkjpgihnibaaGreatDoor
open Go.RowKit

theorem flat_snoc {rows : List (List Int)} {k : Nat} (h : k < rows.length) : (rows.take (k + 1)).flatten = (rows.take k).flatten ++ rat rows k := by
  have e : rows.take (k + 1) = rows.take k ++ [rat rows k] := by
    rw [List.take_add_one, List.getElem?_eq_getElem h]
    unfold rat
    rw [List.getD_eq_getElem?_getD, List.getElem?_eq_getElem h]
    rfl
  rw [e, List.flatten_append]
  simp
theorem flat_le {rows : List (List Int)} (k : Nat) : (rows.take k).flatten.length ≤ rows.flatten.length := by
  have := congrArg (fun l => (List.flatten l).length) (List.take_append_drop k rows)
  simp only [List.flatten_append, List.length_append] at this
  omega

theorem hidK {α β : Type} {A B : α → β → Prop} {C : α → β → Prop} (h : ∀ x y, Hid (A x y) → B x y → C x y) : ∀ x y, A x y → B x y → C x y := fun x y a b => h x y a b

set_option maxRecDepth 100000 in
set_option maxHeartbeats 1000000 in
theorem joined_any (mark : Int) (cap : Nat) (a : Option Addr) (rows : List (List Int)) (w : World) (hlen : rows.flatten.length ≤ 17592186044300) (hrl : rows.length ≤ 17592186044300) (hl : LstR w.heap.size w a cap rows) :
    Calls Tryz.prog 241 #[.int .i64 mark, .slice a rows.length cap] w fun e w' => ∃ v, e = .returned v ∧ w'.ownsRow w.heap.size 3 1 v (mark :: rows.flatten).length ((mark :: rows.flatten).map (Value.int .i64)) ∧ Below w.heap.size w w' := by
  have HL := hid hl
  have HFL := hid hlen
  clear hl hlen
  have HO := hid (owns_one w mark)
  have HBA : Hid (Below w.heap.size w (w.alloc (.cells #[.int .i64 mark] 3))) := (Below.refl _ _).alloc (Nat.le_refl _) _
  obtain ⟨m, hm⟩ : ∃ m, m = rows.length := ⟨_, rfl⟩
  rw [← hm] at hrl ⊢
  have HM := hid hm
  clear hm
  go_enter Tryz.func241, Tryz.ntmps241
  go_wp2_with fail
  go_loopw [5, 12] (fun v iv wr => ∃ k : Nat, k ≤ m ∧ iv = .int .i64 k ∧ Hid (wr.ownsRow w.heap.size 3 1 v (mark :: (rows.take k).flatten).length ((mark :: (rows.take k).flatten).map (Value.int .i64)) ∧ Below w.heap.size w wr))
    (fun _ iv _ => m - (intOf iv).toNat)
  case atStart =>
    exact ⟨0, by omega, rfl, HO.out, HBA.out⟩
  case round =>
    obtain ⟨k, hk, rfl, hC⟩ := hrel
    by_cases hlt : k < m
    · have hlt2 : (k : Int) < (m : Int) := by omega
      have hks : IntKind.i64.wrap ((k : Int) + 1) = (k : Int) + 1 := by rw [IntKind.wrap_i64]; omega
      obtain ⟨bl, ol, ak, ck, rfl, hbl', hcl, hlk⟩ := HL.out.row k (by rw [← HM.out]; exact hlt)
      have hcl2 := (hC.out.2.cell (p := ⟨bl, ol + k, none⟩) hbl').trans hcl
      have HLK := hid (hlk.below hC.out.2)
      have HLE : Hid ((mark :: (rows.take k).flatten).length + (rat rows k).length ≤ 17592186044416) := by
        have e1 := flat_snoc (rows := rows) (k := k) (by rw [← HM.out]; exact hlt)
        have e2 := flat_le (rows := rows) (k + 1)
        have e3 := HFL.out
        rw [e1, List.length_append] at e2
        show _ + 1 + _ ≤ _
        omega
      have HSN : Hid (mark :: (rows.take (k + 1)).flatten = (mark :: (rows.take k).flatten) ++ rat rows k) := by unfold Hid; rw [flat_snoc (by rw [← HM.out]; exact hlt)]; rfl
      obtain ⟨Z, hZ⟩ : ∃ Z, Z = mark :: (rows.take k).flatten := ⟨_, rfl⟩
      obtain ⟨Y, hY⟩ : ∃ Y, Y = rat rows k := ⟨_, rfl⟩
      rw [← hZ, ← hY] at HSN HLE
      rw [← hZ] at hC
      rw [← hY] at HLK hcl2
      clear hcl hbl' hlk hZ hY
      go_wp2_with (at_builtin; refine wpList_appendL wr w.heap.size w.heap.size rfl _ _ rfl _ rfl _ _ hC.out.1 _ _ rfl HLE.out hC.out.2.size HLK.out ?_; refine hidK ?_)
      intro v' w2 HOW hb2
      have HE : Hid (w2.ownsRow w.heap.size 3 1 v' (mark :: (rows.take (k + 1)).flatten).length ((mark :: (rows.take (k + 1)).flatten).map (Value.int .i64)) ∧ Below w.heap.size w w2) := by
        unfold Hid
        rw [HSN.out, List.length_append, List.map_append]
        exact ⟨HOW.out, hC.out.2.trans hb2⟩
      clear HOW hb2
      go_wp2_with fail
      go_roundw
      case rel => exact ⟨k + 1, by omega, by go_num, HE⟩
      case measure => simp [intOf]; omega
    · obtain rfl : k = m := by omega
      have HT : Hid (rows.take k = rows) := by unfold Hid; rw [HM.out, List.take_length]
      have HE := hC
      rw [HT.out] at HE
      clear hC
      go_wp2_with fail
      go_ret
      exact ⟨_, rfl, HE.out⟩

theorem an4 (f : Nat → Int) : an 4 f = #[.int .i64 (f 0), .int .i64 (f 1), .int .i64 (f 2), .int .i64 (f 3)] := rfl

theorem arr4_set {W : World} {g : Nat} {t : TypeId} {f : Nat → Int} (h : ArrI W g t 4 f) (G : Nat → Int) : ArrI ((((W.setCell ⟨g, 0, none⟩ (.int .i64 (G 0))).setCell ⟨g, 1, none⟩ (.int .i64 (G 1))).setCell ⟨g, 2, none⟩ (.int .i64 (G 2))).setCell ⟨g, 3, none⟩ (.int .i64 (G 3))) g t 4 G :=
  ((((h.set 0 (G 0)).set 1 (G 1)).set 2 (G 2)).set 3 (G 3)).congr (fun j hj => by
    have : j = 0 ∨ j = 1 ∨ j = 2 ∨ j = 3 := by omega
    rcases this with rfl | rfl | rfl | rfl <;> rfl)

set_option maxRecDepth 100000 in
set_option maxHeartbeats 2000000 in
theorem whash_any (q n d b s g B cap : Nat) (mark : Int) (a : Option Addr) (rows : List (List Int)) (w : World) (ok : SpgOk q n d) (hs : SpgAt w s b q n d) (hw : WlkAt w g B s) (hlen : rows.flatten.length ≤ 17592186044300) (hrl : rows.length ≤ 17592186044300) (hfit : Fits (mark :: rows.flatten)) (hl : LstR w.heap.size w a cap rows) :
    Calls Tryz.prog 215 #[.pointer (some ⟨g, 0, none⟩), .int .i64 mark, .slice a rows.length cap] w fun e w' => e = .returned (.agg (an 4 (zat (digl q n (mark :: rows.flatten))))) ∧ Below w.heap.size w w' := by
  have h3 : 3 ≤ q := by have := ok.h23; omega
  have hm := ok.hm
  have HOK := hid ok
  have HS := hid hs
  have HW := hid hw
  have HFT := hid hfit
  have HL := hid hl
  have HLE := hid hlen
  have hgl := hw.lt
  obtain ⟨L, hL⟩ : ∃ L, L = mark :: rows.flatten := ⟨_, rfl⟩
  rw [← hL]
  have HLQ := hid hL
  clear ok hs hw hfit hl hlen hL
  go_enter Tryz.func215, Tryz.ntmps215
  go_wp2_with fail
  have HA0 := hid (ArrI.new w 4 222 (fun _ => 0))
  rw [an4] at HA0
  have HB0 : Hid (Below w.heap.size w (w.alloc (.cells #[.int .i64 0, .int .i64 0, .int .i64 0, .int .i64 0] 222))) := (Below.refl _ _).alloc (Nat.le_refl _) _
  generalize w.alloc (.cells #[.int .i64 0, .int .i64 0, .int .i64 0, .int .i64 0] 222) = W0 at *
  have hL := HLQ.out
  have HLL : Hid (L.length ≤ 17592186044400) := by unfold Hid; rw [hL]; simp only [List.length_cons]; have := HLE.out; omega
  have HFL : Hid (Fits L) := by unfold Hid; rw [hL]; exact HFT.out
  have hne : w.heap.size ≠ g := by omega
  have HFI : Hid (∀ W, Below W0.heap.size W0 W → Calls Tryz.prog 167 #[.pointer (some ⟨s, 0, none⟩)] W fun e w' => e = .returned (.pointer (some ⟨b, 0, none⟩)) ∧ w' = W) := fun W h => sfield_any q n d b s W ((HS.out.keep HB0.out).keep h)
  have HJ : Hid (∀ W, Below W0.heap.size W0 W → Calls Tryz.prog 241 #[.int .i64 mark, .slice a rows.length cap] W fun e w' => ∃ v, e = .returned v ∧ Hid (w'.ownsRow W.heap.size 3 1 v L.length (L.map (Value.int .i64))) ∧ Below W0.heap.size W0 w') := fun W h => by
    have hb := HB0.out.trans (h.mono HB0.out.size)
    refine (joined_any mark cap a rows W HLE.out hrl ((HL.out.below hb).mono hb.size)).mono ?_
    rintro e w' ⟨v, rfl, h1, h2⟩
    rw [← hL] at h1
    exact ⟨v, rfl, h1, h.trans (h2.mono h.size)⟩
  have HH : Hid (∀ (W : World) (v : Value) (bs : Nat), Hid (W.ownsRow bs 3 1 v L.length (L.map (Value.int .i64))) → Below W0.heap.size W0 W → Calls Tryz.prog 154 #[.pointer (some ⟨s, 0, none⟩), v] W fun e w' => ∃ x : Nat, e = .returned (.slice (some ⟨x, 0, none⟩) 4 4) ∧ Hid (RowB w'.heap.size w' (some ⟨x, 0, none⟩) (digl q n L)) ∧ Below W0.heap.size W0 w') := fun W v bs h0 h => by
    obtain ⟨a2, c2, rfl, hl2⟩ := lst_of_owns h0.out
    refine (shash_any q n d b s L.length c2 a2 (zat L) W HOK.out ((HS.out.keep HB0.out).keep h) HLL.out (fun j _ => HFL.out.all j) (fun j hj => hl2.row j hj)).mono ?_
    rintro e w' ⟨rfl, h1, h2⟩
    refine ⟨_, rfl, ?_, h.trans (h2.mono h.size)⟩
    intro j hj
    rw [digl_len] at hj
    refine ⟨_, 0, rfl, h1.lt, ?_⟩
    rw [Nat.zero_add, h1.cell (by omega)]
    unfold digl
    rw [ls_at _ _ _ hj]
  have HD : Hid (∀ (W : World) (x : Nat), Hid (RowB W.heap.size W (some ⟨x, 0, none⟩) (digl q n L)) → Below W0.heap.size W0 W → Calls Tryz.prog 225 #[.pointer (some ⟨b, 0, none⟩), .slice (some ⟨x, 0, none⟩) 4 4] W fun e w' => e = .returned (.agg (an 4 (zat (digl q n L)))) ∧ Below W0.heap.size W0 w') := fun W x h0 h => by
    refine (digestof_any q b 4 (some ⟨x, 0, none⟩) (digl q n L) W h3 hm ((HS.out.keep HB0.out).keep h).p (digl_len _ _ _) (digl_fits h3 hm n L) h0.out).mono ?_
    rintro e w' ⟨rfl, h2⟩
    refine ⟨?_, h.trans (h2.mono h.size)⟩
    rw [an_congr (g := zat (digl q n L))]
    intro j hj
    have := congrArg (fun l => zat l j) (elr_digl h3 n L)
    simp only [elr] at this
    rw [ls_at _ _ _ (by rw [digl_len]; exact hj)] at this
    exact this
  have hKeep : ∀ W, Below W0.heap.size W0 W → W.cell? ⟨g, 0, none⟩ = some (.pointer (some ⟨s, 0, none⟩)) := fun W h => (h.cell (p := ⟨g, 0, none⟩) (by have := HB0.out.size; show g < _; omega)).trans ((HB0.out.cell (p := ⟨g, 0, none⟩) hgl).trans HW.out.c0)
  have HK := hid hKeep
  have HE : Hid (∀ W, Below W0.heap.size W0 W → ArrI W w.heap.size 222 4 (fun _ => 0)) := fun W h => HA0.out.block (h.block _ HA0.out.lt)
  have hb00 : Below W0.heap.size W0 W0.drew := (Below.refl _ _).drew
  clear hKeep hL HLQ HFT HL HLE HW HOK HS HFL HLL
  go_region_held3 (fun w' => w'.cell? ⟨g, 0, none⟩ = some (.pointer (some ⟨s, 0, none⟩))) (first | exact HK.out _ (by assumption) | go_keep)
    (first
      | (go_at_call 167; refine (HFI.out _ (by assumption)).mono ?_; rintro e w' ⟨rfl, rfl⟩)
      | (go_at_call 241; refine (HJ.out _ (by assumption)).mono ?_; rintro e w' ⟨v, rfl, hown, hbj⟩)
      | (go_at_call 154; refine (HH.out _ _ _ (by assumption) (by assumption)).mono ?_; rintro e w' ⟨x, rfl, hrowx, hbh⟩)
      | (go_at_call 225; refine (HD.out _ _ (by assumption) (by assumption)).mono ?_; rintro e w' ⟨rfl, hbd⟩; rw [an4]; have y0 := (HE.out _ hbd).frozen 0; have y1 := (HE.out _ hbd).frozen 1; have y2 := (HE.out _ hbd).frozen 2; have y3 := (HE.out _ hbd).frozen 3; have z0 := (HE.out _ hbd).cell (i := 0) (by decide); have z1 := (HE.out _ hbd).cell (i := 1) (by decide); have z2 := (HE.out _ hbd).cell (i := 2) (by decide); have z3 := (HE.out _ hbd).cell (i := 3) (by decide)))
  have HF4 := hid (arr4_set (HE.out _ hbd) (zat (digl q n L)))
  have HBE : Hid (Below w.heap.size w ((((w'.setCell ⟨w.heap.size, 0, none⟩ (.int .i64 (zat (digl q n L) 0))).setCell ⟨w.heap.size, 1, none⟩ (.int .i64 (zat (digl q n L) 1))).setCell ⟨w.heap.size, 2, none⟩ (.int .i64 (zat (digl q n L) 2))).setCell ⟨w.heap.size, 3, none⟩ (.int .i64 (zat (digl q n L) 3)))) :=
    ((((HB0.out.trans (hbd.mono HB0.out.size)).setCell (p := ⟨w.heap.size, 0, none⟩) (Nat.le_refl _) _).setCell (p := ⟨w.heap.size, 1, none⟩) (Nat.le_refl _) _).setCell (p := ⟨w.heap.size, 2, none⟩) (Nat.le_refl _) _).setCell (p := ⟨w.heap.size, 3, none⟩) (Nat.le_refl _) _
  clear y0 y1 y2 y3 z0 z1 z2 z3
  go_wp2_with fail
  refine bodyPost_ret (results_an rfl _ _ w.heap.size 222 4 _ _ (zat (digl q n L)) rfl HF4.out Tryz.underlying222 (by kernel_rfl)) rfl ?_
  exact ⟨rfl, HBE.out⟩

theorem lstR_one {w : World} {a : Option Addr} {cap : Nat} {row : List Int} (hl : Lst w.heap.size w a cap row) : LstR (w.heap.size + 1) (w.drew.alloc (.cells #[.slice a row.length cap] 22)) (some ⟨w.heap.size, 0, none⟩) 1 [row] := by
  have hb : Below w.heap.size w (w.drew.alloc (.cells #[.slice a row.length cap] 22)) := (Below.refl _ _).drew.alloc (Nat.le_refl _) _
  refine ⟨fun k hk => ?_, Nat.le_refl _, fun h => by cases h⟩
  obtain rfl : k = 0 := by simp at hk; omega
  refine ⟨w.heap.size, 0, a, cap, rfl, by omega, ?_, (hl.below hb).mono (by omega)⟩
  have := heap_alloc_new w.drew (.cells #[.slice a row.length cap] 22)
  unfold World.cell?
  rw [show (w.drew.alloc (.cells #[.slice a row.length cap] 22)).heap[(⟨w.heap.size, 0 + 0, none⟩ : Addr).block]? = some (.cells #[.slice a row.length cap] 22 (0, 0)) from this]
  rfl

set_option maxRecDepth 100000 in
set_option maxHeartbeats 2000000 in
theorem seerow_any (q n d b s g B cap x : Nat) (a : Option Addr) (row : List Int) (M : Nat → Nat → Option (List Int)) (w : World) (ok : SpgOk q n d) (hs : SpgAt w s b q n d) (hw : WlkAt w g B s) (hM : MapIs w B M) (hx : x ≤ 1000000) (hlen : row.length ≤ 17592186044000) (hfit : Fits row) (hl : Lst w.heap.size w a cap row) :
    Calls Tryz.prog 170 #[.pointer (some ⟨g, 0, none⟩), .int .i64 (x : Int), .slice a row.length cap] w fun e w' => e = .returned (.tuple #[]) ∧ MapIs w' B (upd M x (x + 1) (digl q n (0 :: row))) ∧ w.grownBy w' (some B) := by
  have c1 := hw.c1
  have hgl := hw.lt
  have hBl := hM.lt
  have hBg : B ≠ g := fun e => by
    obtain ⟨es, ck, h1, _⟩ := hM
    unfold WlkAt at hw
    rw [e, hw] at h1
    cases h1
  have HB1 : Hid (Below w.heap.size w (w.drew.alloc (.cells #[.slice a row.length cap] 22))) := (Below.refl _ _).drew.alloc (Nat.le_refl _) _
  have HH : Hid (Calls Tryz.prog 215 #[.pointer (some ⟨g, 0, none⟩), .int .i64 0, .slice (some ⟨w.heap.size, 0, none⟩) 1 1] (w.drew.alloc (.cells #[.slice a row.length cap] 22)) fun e w' => e = .returned (.agg #[.int .i64 (zat (digl q n (0 :: row)) 0), .int .i64 (zat (digl q n (0 :: row)) 1), .int .i64 (zat (digl q n (0 :: row)) 2), .int .i64 (zat (digl q n (0 :: row)) 3)]) ∧ w'.cell? ⟨g, 1, none⟩ = some (.map (some B)) ∧ ∃ w2, (Instr.mapUpdate 263 (.map (some B)) (.agg #[.int .i64 (x : Int), .int .i64 ((x : Int) + 1)]) (.agg #[.int .i64 (zat (digl q n (0 :: row)) 0), .int .i64 (zat (digl q n (0 :: row)) 1), .int .i64 (zat (digl q n (0 :: row)) 2), .int .i64 (zat (digl q n (0 :: row)) 3)])).run Tryz.prog w' = .ok () w2 ∧ w2.cell? ⟨g, 1, none⟩ = some (.map (some B)) ∧ Hid (MapIs w2 B (upd M x (x + 1) (digl q n (0 :: row))) ∧ w.grownBy w2 (some B))) := by
    have hlr := lstR_one hl
    have e0 : (0 :: row) = 0 :: [row].flatten := by simp
    refine (whash_any q n d b s g B 1 0 (some ⟨w.heap.size, 0, none⟩) [row] (w.drew.alloc (.cells #[.slice a row.length cap] 22)) ok (hs.keep HB1.out) (hw.block (HB1.out.block _ hgl)) (by simp; omega) (by simp) (by rw [← e0]; exact fits_cons (by omega) hfit) ?_).mono ?_
    · have hsz : (w.drew.alloc (.cells #[.slice a row.length cap] 22)).heap.size = w.heap.size + 1 := by simp
      rw [hsz]
      exact hlr
    · rintro e w' ⟨rfl, hb⟩
      rw [← e0]
      have hb2 := HB1.out.trans (hb.mono HB1.out.size)
      obtain ⟨w2, h1, h2, h3⟩ := (hM.below hb2 hBl).update (a := x) (b := x + 1) (by omega) (by omega) (digl q n (0 :: row))
      rw [an4, show gk x (x + 1) = .agg #[.int .i64 (x : Int), .int .i64 ((x : Int) + 1)] from by simp [gk]] at h1
      have c2 := (hb2.cell (p := ⟨g, 1, none⟩) hgl).trans c1
      exact ⟨rfl, c2, w2, h1, (gb_cell h3 (p := ⟨g, 1, none⟩) (by have := hb2.size; show g < _; omega) (Ne.symm hBg)).trans c2, h2, gb_trans (gb_below hb2) h3⟩
  have hwr : IntKind.i64.wrap ((x : Int) + 1) = (x : Int) + 1 := by rw [IntKind.wrap_i64]; omega
  clear ok hs hw hM hfit hl HB1
  generalize digl q n (0 :: row) = DL at *
  go_enter Tryz.func170, Tryz.ntmps170
  go_wp2_with fail
  go_region_held3 (fun w' => w'.cell? ⟨g, 1, none⟩ = some (.map (some B))) (go_keep)
    (first
      | (go_at_call 215; refine HH.out.mono ?_; rintro e w' ⟨rfl, c2, w2, hrun, c3, hE⟩))
  go_wp2_with fail
  go_end0
  exact ⟨rfl, hE.out⟩

end Go.Proofs.YtfppkjpgihnibaaGreatDoor

namespace Go.Proofs.YtfppkjpgihnibaaGreatDoor
open Go.RowKit

/-- what is found is right -/
def Snd (M : Nat → Nat → Option (List Int)) (D : Nat → Nat → List Int) : Prop := ∀ a b d, M a b = some d → d = D a b
/-- what was found stays -/
def Sub (M M' : Nat → Nat → Option (List Int)) : Prop := ∀ a b, M a b ≠ none → M' a b ≠ none
/-- of what is new both parts are found -/
def ClM (M M' : Nat → Nat → Option (List Int)) : Prop := ∀ a b, M' a b ≠ none → M a b ≠ none ∨ (2 ≤ b - a ∧ M' a (a + lft (b - a)) ≠ none ∧ M' (a + lft (b - a)) b ≠ none)

/-- the first of a walk's root: is it found? -/
structure RootW (w W1 : World) (g B s x y : Nat) (M : Nat → Nat → Option (List Int)) : Prop where
  below : Below w.heap.size w W1
  size : W1.heap.size = w.heap.size + 2
  key : W1.rowIs w.heap.size 212 2 (duo (.int .i64 (x : Int)) (.int .i64 (y : Int)))
  res : ArrI W1 (w.heap.size + 1) 222 4 (fun _ => 0)
  map : MapIs W1 B M
  c1 : W1.cell? ⟨g, 1, none⟩ = some (.map (some B))
theorem rootW_new {w : World} {g B s x y : Nat} {M : Nat → Nat → Option (List Int)} (hw : WlkAt w g B s) (hM : MapIs w B M) : RootW w ((w.alloc (.cells #[.int .i64 (x : Int), .int .i64 (y : Int)] 212)).alloc (.cells #[.int .i64 0, .int .i64 0, .int .i64 0, .int .i64 0] 222)) g B s x y M := by
  have hb : Below w.heap.size w ((w.alloc (.cells #[.int .i64 (x : Int), .int .i64 (y : Int)] 212)).alloc (.cells #[.int .i64 0, .int .i64 0, .int .i64 0, .int .i64 0] 222)) := ((Below.refl _ _).alloc (Nat.le_refl _) _).alloc (by simp) _
  exact ⟨hb, by simp, (duo_new w _ _ _).alloc _, ArrI.new2 w _ 4 222 (fun _ => 0), hM.below hb hM.lt, (hb.cell (p := ⟨g, 1, none⟩) hw.lt).trans hw.c1⟩

set_option maxRecDepth 100000 in
set_option maxHeartbeats 2000000 in
theorem wroot_found (s g B x y : Nat) (dl : List Int) (M : Nat → Nat → Option (List Int)) (w : World) (hw : WlkAt w g B s) (hM : MapIs w B M) (hx : x ≤ 1000000) (hy : y ≤ 1000000) (hd : M x y = some dl) :
    Calls Tryz.prog 171 #[.pointer (some ⟨g, 0, none⟩), gk x y] w fun e w' => e = .returned (.agg (an 4 (zat dl))) ∧ Below w.heap.size w w' := by
  unfold gk
  have HR := hid (rootW_new (x := x) (y := y) hw hM)
  have hgl := hw.lt
  have hBl := hM.lt
  clear hw hM
  go_enter Tryz.func171, Tryz.ntmps171
  go_wp2_with fail
  generalize (w.alloc (.cells #[.int .i64 (x : Int), .int .i64 (y : Int)] 212)).alloc (.cells #[.int .i64 0, .int .i64 0, .int .i64 0, .int .i64 0] 222) = W1 at *
  have hsz := HR.out.size
  have HK : Hid (∀ W, Below W1.heap.size W1 W → W.cell? ⟨g, 1, none⟩ = some (.map (some B)) ∧ W.cell? ⟨w.heap.size, 0, none⟩ = some (.int .i64 (x : Int)) ∧ W.cell? ⟨w.heap.size, 1, none⟩ = some (.int .i64 (y : Int)) ∧ W.heap[B]? = W1.heap[B]?) := fun W h =>
    ⟨(h.cell (p := ⟨g, 1, none⟩) (by show g < _; omega)).trans HR.out.c1, (h.cell (p := ⟨w.heap.size, 0, none⟩) (by show w.heap.size < _; omega)).trans (HR.out.key.cell (i := 0) (by omega)), (h.cell (p := ⟨w.heap.size, 1, none⟩) (by show w.heap.size < _; omega)).trans (HR.out.key.cell (i := 1) (by omega)), h.block B (by omega)⟩
  have hLk : ∀ W, W.heap[B]? = W1.heap[B]? → (Instr.lookup 263 (.map (some B)) (.agg #[.int .i64 (x : Int), .int .i64 (y : Int)]) true).run Tryz.prog W = .ok (.tuple #[.agg #[.int .i64 (zat dl 0), .int .i64 (zat dl 1), .int .i64 (zat dl 2), .int .i64 (zat dl 3)], .bool true]) W := fun W h => by
    have := (HR.out.map.block h).lookup (a := x) (b := y) (by omega) (by omega) true
    rw [hd, show gotv M x y = zat dl from by unfold gotv; rw [hd], an4] at this
    exact this
  go_region_held3 (fun w' => w'.cell? ⟨g, 1, none⟩ = some (.map (some B)) ∧ w'.cell? ⟨w.heap.size, 0, none⟩ = some (.int .i64 (x : Int)) ∧ w'.cell? ⟨w.heap.size, 1, none⟩ = some (.int .i64 (y : Int)) ∧ w'.heap[B]? = W1.heap[B]?)
    (first | exact HK.out _ (Below.refl _ _).drew | exact HK.out _ ((Below.refl _ _).drew.alloc (Nat.le_refl _) _)) (fail)
  all_goals (
    have HAd := hid (ArrI.new W1 4 222 (zat dl)).drew
    rw [an4, hsz] at HAd
    have HAr := hid (HR.out.res.alloc (.cells #[.int .i64 (zat dl 0), .int .i64 (zat dl 1), .int .i64 (zat dl 2), .int .i64 (zat dl 3)] 222)).drew
    have HBe : Hid (Below w.heap.size w (W1.alloc (.cells #[.int .i64 (zat dl 0), .int .i64 (zat dl 1), .int .i64 (zat dl 2), .int .i64 (zat dl 3)] 222)).drew) := (HR.out.below.alloc (by omega) _).drew
    clear HK hLk HR hsz
    generalize (W1.alloc (.cells #[.int .i64 (zat dl 0), .int .i64 (zat dl 1), .int .i64 (zat dl 2), .int .i64 (zat dl 3)] 222)).drew = W2 at *
    go_wp2_with (first
        | (refine wpList_load_an rfl 222 _ rfl _ rfl _ _ _ _ _ HAd.out Tryz.underlying222 (by kernel_rfl) ?_)
        | (refine wpList_store_an rfl 222 _ _ rfl _ _ _ _ rfl rfl _ HAr.out (by kernel_rfl) ?_))
    refine bodyPost_ret (results_an rfl _ _ (w.heap.size + 1) 222 4 _ _ (zat dl) rfl (HAr.out.setRow _) Tryz.underlying222 (by kernel_rfl)) rfl ?_
    exact ⟨rfl, below_setRow HBe.out (by omega) _⟩)

end Go.Proofs.YtfppkjpgihnibaaGreatDoor

namespace Go.Proofs.YtfppkjpgihnibaaGreatDoor
open Go.RowKit

theorem clM_trans {M M1 M2 : Nat → Nat → Option (List Int)} (h1 : ClM M M1) (hs : Sub M1 M2) (h2 : ClM M1 M2) : ClM M M2 := fun a b h => by
  rcases h2 a b h with h | h
  · rcases h1 a b h with h | ⟨e1, e2, e3⟩
    · exact .inl h
    · exact .inr ⟨e1, hs _ _ e2, hs _ _ e3⟩
  · exact .inr h
/-- the map, while its two parts are worked out -/
def PMx (D : Nat → Nat → List Int) (M : Nat → Nat → Option (List Int)) (B x m y : Nat) (u v : Bool) (W : World) : Prop :=
  ∃ M', MapIs W B M' ∧ Snd M' D ∧ Sub M M' ∧ ClM M M' ∧ (u = true → M' x m ≠ none) ∧ (v = true → M' m y ≠ none)
theorem PMx.block {D : Nat → Nat → List Int} {M : Nat → Nat → Option (List Int)} {B x m y : Nat} {u v : Bool} {W W' : World} (h : PMx D M B x m y u v W) (e : W'.heap[B]? = W.heap[B]?) : PMx D M B x m y u v W' := by
  obtain ⟨M', h1, r⟩ := h
  exact ⟨M', h1.block e, r⟩
def d4 (d : List Int) : Value := .agg #[.int .i64 (zat d 0), .int .i64 (zat d 1), .int .i64 (zat d 2), .int .i64 (zat d 3)]
def sF (g x m y n3 : Nat) (d1 d2 : List Int) (W : World) : Nat → Value → Prop
  | 0, v => v = .pointer (some ⟨g, 0, none⟩)
  | 1, v => v = .agg #[.int .i64 (x : Int), .int .i64 (m : Int)]
  | 2, v => v = d4 d1
  | 3, v => v = .pointer (some ⟨g, 0, none⟩)
  | 4, v => v = .agg #[.int .i64 (m : Int), .int .i64 (y : Int)]
  | 5, v => v = d4 d2
  | 6, v => ∃ A, v = .pointer (some ⟨A, 0, none⟩) ∧ n3 ≤ A ∧ ArrI W A 222 4 (fun _ => 0)
  | _, v => ∃ A, v = .pointer (some ⟨A, 0, none⟩) ∧ n3 ≤ A ∧ ArrI W A 222 4 (fun _ => 0)
theorem sF_step {g B x m y n3 : Nat} {d1 d2 : List Int} {W W' : World} (hB : B < n3) (h : W.grownBy W' (some B)) : ∀ k u, sF g x m y n3 d1 d2 W k u → sF g x m y n3 d1 d2 W' k u := fun k u hk => by
  have key : (∃ A, u = .pointer (some ⟨A, 0, none⟩) ∧ n3 ≤ A ∧ ArrI W A 222 4 (fun _ => 0)) → ∃ A, u = .pointer (some ⟨A, 0, none⟩) ∧ n3 ≤ A ∧ ArrI W' A 222 4 (fun _ => 0) := by
    rintro ⟨A, h1, h2, h3⟩
    exact ⟨A, h1, h2, h3.block (gb_blk h h3.lt (by omega))⟩
  match k, hk with
  | 0, hk => exact hk
  | 1, hk => exact hk
  | 2, hk => exact hk
  | 3, hk => exact hk
  | 4, hk => exact hk
  | 5, hk => exact hk
  | 6, hk => exact key hk
  | k + 7, hk => exact key hk
/-- the two in memory -/
def sFin (n3 : Nat) (d1 d2 : List Int) (f : Nat → Int) (W : World) (σ : Nat → Value) : Prop := ∃ A A', σ 6 = .pointer (some ⟨A, 0, none⟩) ∧ σ 7 = .pointer (some ⟨A', 0, none⟩) ∧ σ 5 = d4 d2 ∧ n3 ≤ A ∧ n3 ≤ A' ∧ A ≠ A' ∧ ArrI W A 222 4 (zat d1) ∧ ArrI W A' 222 4 f
def sInv (D : Nat → Nat → List Int) (M : Nat → Nat → Option (List Int)) (g B x m y n3 : Nat) (W3 : World) (gA : (Nat → Value) → Act) (L : Array Bool) (a : Act) (W : World) : Prop :=
  ∃ σ, a = gA σ ∧ W3.grownBy W (some B) ∧ PMx D M B x m y (L.getD 2 false) (L.getD 5 false) W ∧
    (L.getD 8 false = false → L.getD 9 false = false ∧ Told 8 (sF g x m y n3 (D x m) (D m y)) L W σ ∧ (L.getD 6 false = true → L.getD 7 false = true → σ 6 ≠ σ 7)) ∧
    (L.getD 8 false = true → L.getD 9 false = false → sFin n3 (D x m) (D m y) (fun _ => 0) W σ) ∧ (L.getD 9 false = true → sFin n3 (D x m) (D m y) (zat (D m y)) W σ)
theorem gb_far {W3 W : World} {B A : Nat} (h : W3.grownBy W (some B)) (hA : W3.heap.size ≤ A) (i : Nat) (v : Value) : W3.grownBy (W.setCell ⟨A, i, none⟩ v) (some B) :=
  ⟨h.os, h.tape, h.output, by have := h.size; simpa [World.setCell] using this, fun k hk hne => (Below.heap_setCell _ _ _ _ (by show k ≠ A; omega)).trans (h.block k hk hne)⟩
theorem heap_set4 (W : World) (A k : Nat) (h : k ≠ A) (v0 v1 v2 v3 : Value) : ((((W.setCell ⟨A, 0, none⟩ v0).setCell ⟨A, 1, none⟩ v1).setCell ⟨A, 2, none⟩ v2).setCell ⟨A, 3, none⟩ v3).heap[k]? = W.heap[k]? := by
  rw [Below.heap_setCell _ _ _ _ h, Below.heap_setCell _ _ _ _ h, Below.heap_setCell _ _ _ _ h, Below.heap_setCell _ _ _ _ h]

theorem getD_set_same {L : Array Bool} {i : Nat} (h : i < L.size) : (L.setIfInBounds i true).getD i false = true := by simp [h]
theorem sInv_next {D : Nat → Nat → List Int} {M : Nat → Nat → Option (List Int)} {g B x m y n3 : Nat} {W3 : World} {gA : (Nat → Value) → Act} {L : Array Bool} {W W' : World} {σ : Nat → Value} {i : Nat} {v : Value} {a' : Act} (hi : i < 8) (h8 : L.getD 8 false = false) (h9 : L.getD 9 false = false)
    (ht : Told 8 (sF g x m y n3 (D x m) (D m y)) L W σ) (hgb : W3.grownBy W' (some B)) (hm : ∀ k u, sF g x m y n3 (D x m) (D m y) W k u → sF g x m y n3 (D x m) (D m y) W' k u) (hv : sF g x m y n3 (D x m) (D m y) W' i v) (hpm : PMx D M B x m y ((L.setIfInBounds i true).getD 2 false) ((L.setIfInBounds i true).getD 5 false) W')
    (h67 : (L.setIfInBounds i true).getD 6 false = true → (L.setIfInBounds i true).getD 7 false = true → upd' σ i v 6 ≠ upd' σ i v 7) (ha : a' = gA (upd' σ i v)) : sInv D M g B x m y n3 W3 gA (L.setIfInBounds i true) a' W' :=
  ⟨upd' σ i v, ha, hgb, hpm, fun _ => ⟨by rw [getD_set_other (by omega)]; exact h9, ht.one hm hv, h67⟩, fun h => (by rw [getD_set_other (by omega), h8] at h; cases h), fun h => (by rw [getD_set_other (by omega), h9] at h; cases h)⟩

def rA5 (g ws w3s B x m y : Nat) (σ : Nat → Value) : Act :=
  { tmps := #[.pointer (some ⟨g, 0, none⟩), .agg #[.int .i64 (x : Int), .int .i64 (y : Int)], undef, .pointer (some ⟨ws, 0, none⟩), .pointer (some ⟨ws + 1, 0, none⟩), .pointer (some ⟨ws + 2, 0, none⟩), .bool false, .pointer (some ⟨w3s, 0, none⟩), .pointer (some ⟨w3s + 1, 0, none⟩), σ 6, σ 7, undef,
      .tuple #[.agg #[.int .i64 0, .int .i64 0, .int .i64 0, .int .i64 0], .bool false], .pointer (some ⟨g, 0, none⟩), .pointer (some ⟨g, 0, none⟩), .pointer (some ⟨g, 1, none⟩), .map (some B), .agg #[.int .i64 (x : Int), .int .i64 (y : Int)],
      .tuple #[.agg #[.int .i64 0, .int .i64 0, .int .i64 0, .int .i64 0], .bool false], .agg #[.int .i64 0, .int .i64 0, .int .i64 0, .int .i64 0], .bool false, .bool false, undef,
      .tuple #[.agg #[.int .i64 (x : Int), .int .i64 (m : Int)], .agg #[.int .i64 (m : Int), .int .i64 (y : Int)]], .agg #[.int .i64 (x : Int), .int .i64 (y : Int)],
      .tuple #[.agg #[.int .i64 (x : Int), .int .i64 (m : Int)], .agg #[.int .i64 (m : Int), .int .i64 (y : Int)]], .agg #[.int .i64 (x : Int), .int .i64 (m : Int)], .agg #[.int .i64 (m : Int), .int .i64 (y : Int)],
      σ 0, σ 1, σ 2, σ 3, σ 4, σ 5, undef, undef, undef, undef, undef, undef, undef, undef, undef, undef, undef, undef], defers := [] }

theorem ArrI.lst {W : World} {A : Nat} {t : TypeId} {d : List Int} (h : ArrI W A t 4 (zat d)) (hd : d.length = 4) : Lst W.heap.size W (some ⟨A, 0, none⟩) 4 d :=
  ⟨fun k hk => ⟨A, 0, rfl, h.lt, by rw [Nat.zero_add]; exact h.cell (by omega)⟩, by omega, fun e => by cases e⟩
theorem lstR_two {V : World} {P : Nat} {A A' : Nat} {d1 d2 : List Int} (hP : V.heap[P]? = some (.cells #[.slice (some ⟨A, 0, none⟩) 4 4, .slice (some ⟨A', 0, none⟩) 4 4] 22 (0, 0))) (h1 : Lst V.heap.size V (some ⟨A, 0, none⟩) 4 d1) (h2 : Lst V.heap.size V (some ⟨A', 0, none⟩) 4 d2) (l1 : d1.length = 4) (l2 : d2.length = 4) : LstR V.heap.size V (some ⟨P, 0, none⟩) 2 [d1, d2] := by
  have hlt : P < V.heap.size := (Array.getElem?_eq_some_iff.1 hP).1
  refine ⟨fun k hk => ?_, Nat.le_refl _, fun h => by cases h⟩
  have : k = 0 ∨ k = 1 := by simp at hk; omega
  rcases this with rfl | rfl
  · refine ⟨P, 0, some ⟨A, 0, none⟩, 4, rfl, hlt, ?_, h1⟩
    show _ = some (Value.slice (some ⟨A, 0, none⟩) d1.length 4)
    rw [l1]
    simp [World.cell?, hP]
  · refine ⟨P, 0, some ⟨A', 0, none⟩, 4, rfl, hlt, ?_, h2⟩
    show _ = some (Value.slice (some ⟨A', 0, none⟩) d2.length 4)
    rw [l2]
    simp [World.cell?, hP]

def sq : Code → Code
  | .seq _ b => b
  | c => c
noncomputable def rootCode : Code := (Tryz.f171.body).getD .ret
theorem wp_of_eq {P : Program} {c c' : Code} {Q : Exit → Act → World → Prop} {a : Act} {w : World} (e : c' = c) (h : c.wp P Q a w) : c'.wp P Q a w := by rw [e]; exact h
/-- what a walk's root answers -/
def RootR (D : Nat → Nat → List Int) (M : Nat → Nat → Option (List Int)) (B x y : Nat) (w : World) (e : Ending) (w' : World) : Prop := e = .returned (.agg (an 4 (zat (D x y)))) ∧ (∃ M', MapIs w' B M' ∧ Snd M' D ∧ Sub M M' ∧ ClM M M' ∧ M' x y ≠ none) ∧ w.grownBy w' (some B)

set_option maxRecDepth 100000 in
set_option maxHeartbeats 4000000 in
theorem root7 {u1 u2 u5 u6 u7 u8 u9 u10 u12 u13 u14 u15 u16 u17 u18 u19 u20 u21 u22 u23 u24 u25 u26 u27 u28 u29 u30 u31 u32 u33 u34 u35 u36 u37 u38 u39 u40 u41 u42 u43 u44 u45 : Value} (s g B x y c m E : Nat) (D : Nat → Nat → List Int) (M : Nat → Nat → Option (List Int)) (w V : World) (hm : m = x + lft c) (hc : y = x + c) (hx : x ≤ 1000000) (hy : y ≤ 1000000) (h2 : 2 ≤ c)
    (hE : ArrI V E 222 4 (zat (D x y))) (hEn : w.heap.size + 1 < E) (hpm : PMx D M B x m y true true V) (hw : WlkAt V g B s) (hk : V.rowIs w.heap.size 212 2 (duo (.int .i64 (x : Int)) (.int .i64 (y : Int)))) (hr : ArrI V (w.heap.size + 1) 222 4 (fun _ => 0)) (hgb : w.grownBy V (some B)) (hBl : B < w.heap.size) (hBg : B ≠ g) :
    (sq (sq (sq (sq (sq rootCode))))).wp Tryz.prog (bodyPost Tryz.prog Tryz.f171 (RootR D M B x y w)) { tmps := #[.pointer (some ⟨g, 0, none⟩), u1, u2, .pointer (some ⟨w.heap.size, 0, none⟩), .pointer (some ⟨w.heap.size + 1, 0, none⟩), u5, u6, u7, u8, u9, u10, .pointer (some ⟨E, 0, none⟩), u12, u13, u14, u15, u16, u17, u18, u19, u20, u21, u22, u23, u24, u25, u26, u27, u28, u29, u30, u31, u32, u33, u34, u35, u36, u37, u38, u39, u40, u41, u42, u43, u44, u45], defers := [] } V := by
  have c1 := hw.c1
  have k0 := hk.cell (i := 0) (by omega)
  have k1 := hk.cell (i := 1) (by omega)
  simp only [duo] at k0 k1
  have d0 := hE.cell (i := 0) (by omega)
  have d1 := hE.cell (i := 1) (by omega)
  have d2 := hE.cell (i := 2) (by omega)
  have d3 := hE.cell (i := 3) (by omega)
  obtain ⟨M', g1, g2, g3, g4, g5, g6⟩ := hpm
  obtain ⟨w2, hrun, hm2, hgb2⟩ := (show MapIs V.drew B M' from g1).update (a := x) (b := y) (by omega) (by omega) (D x y)
  rw [an4] at hrun
  unfold gk at hrun
  have hEl := hE.lt
  have hB2 : ∀ k, k < V.heap.size → k ≠ B → w2.heap[k]? = V.heap[k]? := fun k hk hne => gb_blk (A := V.drew) hgb2 hk hne
  have hcell : ∀ a : Addr, a.block < V.heap.size → a.block ≠ B → w2.cell? a = V.cell? a := fun a h1 h2 => World.cell?_of_block (w := V) (hB2 a.block h1 h2)
  have c1' := (hcell ⟨g, 1, none⟩ hw.lt (Ne.symm hBg)).trans c1
  have k0' := (hcell ⟨w.heap.size, 0, none⟩ (by show w.heap.size < _; omega) (by show w.heap.size ≠ B; omega)).trans k0
  have k1' := (hcell ⟨w.heap.size, 1, none⟩ (by show w.heap.size < _; omega) (by show w.heap.size ≠ B; omega)).trans k1
  have d0' := (hcell ⟨E, 0, none⟩ hEl (by show E ≠ B; omega)).trans d0
  have d1' := (hcell ⟨E, 1, none⟩ hEl (by show E ≠ B; omega)).trans d1
  have d2' := (hcell ⟨E, 2, none⟩ hEl (by show E ≠ B; omega)).trans d2
  have d3' := (hcell ⟨E, 3, none⟩ hEl (by show E ≠ B; omega)).trans d3
  have HAd := hid (hE.block (hB2 E hEl (by omega)))
  have HAr := hid (hr.block (hB2 _ hr.lt (by omega)))
  have HFIN : Hid (∀ w4, w4 = w2.setRow (w.heap.size + 1) (an 4 (zat (D x y))) → RootR D M B x y w (.returned (.agg (an 4 (zat (D x y))))) w4) := fun w4 e => by
    rw [e]
    have hy2 : y - x = c := by omega
    refine ⟨rfl, ⟨upd M' x y (D x y), hm2.block (setRow_other _ _ _ _ (by omega)), ?_, ?_, ?_, by rw [upd_same]; simp⟩, ?_⟩
    · intro a b dd h
      by_cases hab : a = x ∧ b = y
      · rw [hab.1, hab.2, upd_same] at h
        cases h
        rw [hab.1, hab.2]
      · rw [upd_other hab] at h
        exact g2 a b dd h
    · intro a b h
      by_cases hab : a = x ∧ b = y
      · rw [hab.1, hab.2, upd_same]; simp
      · rw [upd_other hab]; exact g3 a b h
    · have hsub : ∀ a b, M' a b ≠ none → upd M' x y (D x y) a b ≠ none := fun a b h => by
        by_cases hab : a = x ∧ b = y
        · rw [hab.1, hab.2, upd_same]; simp
        · rw [upd_other hab]; exact h
      intro a b h
      by_cases hab : a = x ∧ b = y
      · right
        rw [hab.1, hab.2, hy2, ← hm]
        exact ⟨h2, hsub _ _ (g5 rfl), hsub _ _ (g6 rfl)⟩
      · rw [upd_other hab] at h
        rcases g4 a b h with h | ⟨e1, e2, e3⟩
        · exact .inl h
        · exact .inr ⟨e1, hsub _ _ e2, hsub _ _ e3⟩
    · have hg3 : w.grownBy w2 (some B) := gb_trans (gb_drew hgb) hgb2
      exact ⟨hg3.os, hg3.tape, hg3.output, by simpa using hg3.size, fun k hk hne => (setRow_other _ _ _ _ (by omega)).trans (hg3.block k hk hne)⟩
  generalize RootR D M B x y w = RR at *
  clear hm hc hE g1 g2 g3 g4 g5 g6 hw hk hr hgb hm2 hgb2 hB2 hcell
  refine wp_of_eq (c := .seq (.region 7 _ true) _) rfl ?_
  go_wp2_with fail
  go_region_held3 (fun w' => w'.cell? ⟨g, 1, none⟩ = some (.map (some B)) ∧ w'.cell? ⟨w.heap.size, 0, none⟩ = some (.int .i64 (x : Int)) ∧ w'.cell? ⟨w.heap.size, 1, none⟩ = some (.int .i64 (y : Int)) ∧ w'.cell? ⟨E, 0, none⟩ = some (.int .i64 (zat (D x y) 0)) ∧ w'.cell? ⟨E, 1, none⟩ = some (.int .i64 (zat (D x y) 1)) ∧ w'.cell? ⟨E, 2, none⟩ = some (.int .i64 (zat (D x y) 2)) ∧ w'.cell? ⟨E, 3, none⟩ = some (.int .i64 (zat (D x y) 3))) (go_keep) (fail)
  go_wp2_with (first
        | (refine wpList_load_an rfl 222 _ rfl _ rfl _ _ _ _ _ HAd.out Tryz.underlying222 (by kernel_rfl) ?_)
        | (refine wpList_store_an rfl 222 _ _ rfl _ _ _ _ rfl rfl _ HAr.out (by kernel_rfl) ?_))
  refine bodyPost_ret (results_an rfl _ _ (w.heap.size + 1) 222 4 _ _ (zat (D x y)) rfl (HAr.out.setRow _) Tryz.underlying222 (by kernel_rfl)) rfl ?_
  exact HFIN.out _ rfl

set_option maxRecDepth 100000 in
set_option maxHeartbeats 4000000 in
theorem root6 (q n d b s g B x y c m A A' w3s : Nat) (D : Nat → Nat → List Int) (M : Nat → Nat → Option (List Int)) (w W : World) (σ : Nat → Value) (ok : SpgOk q n d) (hD : ∀ a b, Dgst q (D a b)) (hm : m = x + lft c) (hc : y = x + c) (hx : x ≤ 1000000) (hy : y ≤ 1000000) (h2 : 2 ≤ c) (hDe : D x y = digl q n (1 :: (D x m ++ D m y))) (e6 : σ 6 = .pointer (some ⟨A, 0, none⟩)) (e7 : σ 7 = .pointer (some ⟨A', 0, none⟩))
    (hA2 : ArrI W A 222 4 (zat (D x m))) (hA4 : ArrI W A' 222 4 (zat (D m y))) (hpm : PMx D M B x m y true true W) (hs : SpgAt W s b q n d) (hw : WlkAt W g B s) (hk : W.rowIs w.heap.size 212 2 (duo (.int .i64 (x : Int)) (.int .i64 (y : Int)))) (hr : ArrI W (w.heap.size + 1) 222 4 (fun _ => 0)) (hgb : w.grownBy W (some B)) (hBl : B < w.heap.size) (hBg : B ≠ g) :
    (sq (sq (sq (sq rootCode)))).wp Tryz.prog (bodyPost Tryz.prog Tryz.f171 (RootR D M B x y w)) (rA5 g w.heap.size w3s B x m y σ) W := by
  have hgW := hw.lt
  have hrl := hr.lt
  have HH : Hid (∀ (V : World) (P : Nat), Below W.heap.size W V → V.heap[P]? = some (.cells #[.slice (some ⟨A, 0, none⟩) 4 4, .slice (some ⟨A', 0, none⟩) 4 4] 22 (0, 0)) → Calls Tryz.prog 215 #[.pointer (some ⟨g, 0, none⟩), .int .i64 1, .slice (some ⟨P, 0, none⟩) 2 2] V fun e w' => e = .returned (d4 (D x y)) ∧ Below V.heap.size V w') := fun V P hb hP => by
    have hfl : [D x m, D m y].flatten = D x m ++ D m y := by simp
    have hl1 := (hD x m).1
    have hl2 := (hD m y).1
    have hf1 := (hD x m).fits ok.hm
    have hf2 := (hD m y).fits ok.hm
    have hr : LstR V.heap.size V (some ⟨P, 0, none⟩) 2 [D x m, D m y] := lstR_two hP ((hA2.below hb hA2.lt).lst hl1) ((hA4.below hb hA4.lt).lst hl2) hl1 hl2
    have := whash_any q n d b s g B 2 1 (some ⟨P, 0, none⟩) [D x m, D m y] V ok (hs.keep hb) (hw.block (hb.block _ hgW)) (by rw [hfl, List.length_append]; omega) (by simp) (by rw [hfl]; exact fits_cons (by omega) (fits_append hf1 hf2)) hr
    rw [hfl, ← hDe, an4] at this
    exact this
  have HT : Hid (∀ (E : Nat) (V : World), Below W.heap.size W V → W.heap.size ≤ E → ArrI V E 222 4 (zat (D x y)) → ∀ u1 u2 u5 u6 u7 u8 u9 u10 u12 u13 u14 u15 u16 u17 u18 u19 u20 u21 u22 u23 u24 u25 u26 u27 u28 u29 u30 u31 u32 u33 u34 u35 u36 u37 u38 u39 u40 u41 u42 u43 u44 u45 : Value, (sq (sq (sq (sq (sq rootCode))))).wp Tryz.prog (bodyPost Tryz.prog Tryz.f171 (RootR D M B x y w)) { tmps := #[.pointer (some ⟨g, 0, none⟩), u1, u2, .pointer (some ⟨w.heap.size, 0, none⟩), .pointer (some ⟨w.heap.size + 1, 0, none⟩), u5, u6, u7, u8, u9, u10, .pointer (some ⟨E, 0, none⟩), u12, u13, u14, u15, u16, u17, u18, u19, u20, u21, u22, u23, u24, u25, u26, u27, u28, u29, u30, u31, u32, u33, u34, u35, u36, u37, u38, u39, u40, u41, u42, u43, u44, u45], defers := [] } V) := by
    intro E V hb hE1 hE u1 u2 u5 u6 u7 u8 u9 u10 u12 u13 u14 u15 u16 u17 u18 u19 u20 u21 u22 u23 u24 u25 u26 u27 u28 u29 u30 u31 u32 u33 u34 u35 u36 u37 u38 u39 u40 u41 u42 u43 u44 u45
    exact root7 s g B x y c m E D M w V hm hc hx hy h2 hE (by omega) (hpm.block (hb.block _ (by have := hgb.size; omega))) (hw.block (hb.block _ hgW)) (hk.of_block (hb.block _ hk.lt)) (hr.block (hb.block _ hrl)) (gb_trans hgb (gb_below hb)) hBl hBg
  clear hs hw hk hr hgb hpm hm hc hD hA2 hA4 ok hDe
  refine wp_of_eq (c := .seq (.region 6 _ true) _) rfl ?_
  refine wp_seq_k (fun K hK => ?_)
  simp only [rA5, e6, e7]
  generalize σ 0 = u28 at *
  generalize σ 1 = u29 at *
  generalize σ 2 = u30 at *
  generalize σ 3 = u31 at *
  generalize σ 4 = u32 at *
  generalize σ 5 = u33 at *
  clear e6 e7
  have HBa : Hid (Below W.heap.size W ((W.alloc (.cells #[.int .i64 0, .int .i64 0, .int .i64 0, .int .i64 0] 222)).alloc (.cells #[.slice (some ⟨A, 0, none⟩) 4 4, .slice (some ⟨A', 0, none⟩) 4 4] 22)).drew) := (((Below.refl _ _).alloc (Nat.le_refl _) _).alloc (by simp) _).drew
  have HBb : Hid (Below W.heap.size W ((W.alloc (.cells #[.slice (some ⟨A, 0, none⟩) 4 4, .slice (some ⟨A', 0, none⟩) 4 4] 22)).alloc (.cells #[.int .i64 0, .int .i64 0, .int .i64 0, .int .i64 0] 222)).drew) := (((Below.refl _ _).alloc (Nat.le_refl _) _).alloc (by simp) _).drew
  have HBc : Hid (Below W.heap.size W (W.alloc (.cells #[.slice (some ⟨A, 0, none⟩) 4 4, .slice (some ⟨A', 0, none⟩) 4 4] 22)).drew) := ((Below.refl _ _).alloc (Nat.le_refl _) _).drew
  have HPa : Hid (((W.alloc (.cells #[.int .i64 0, .int .i64 0, .int .i64 0, .int .i64 0] 222)).alloc (.cells #[.slice (some ⟨A, 0, none⟩) 4 4, .slice (some ⟨A', 0, none⟩) 4 4] 22)).drew.heap[W.heap.size + 1]? = some (.cells #[.slice (some ⟨A, 0, none⟩) 4 4, .slice (some ⟨A', 0, none⟩) 4 4] 22)) := by
    have := heap_alloc_new (W.alloc (.cells #[.int .i64 0, .int .i64 0, .int .i64 0, .int .i64 0] 222)) (.cells #[.slice (some ⟨A, 0, none⟩) 4 4, .slice (some ⟨A', 0, none⟩) 4 4] 22)
    rwa [show (W.alloc (.cells #[.int .i64 0, .int .i64 0, .int .i64 0, .int .i64 0] 222)).heap.size = W.heap.size + 1 from by simp] at this
  have HPc : Hid ((W.alloc (.cells #[.slice (some ⟨A, 0, none⟩) 4 4, .slice (some ⟨A', 0, none⟩) 4 4] 22)).drew.heap[W.heap.size]? = some (.cells #[.slice (some ⟨A, 0, none⟩) 4 4, .slice (some ⟨A', 0, none⟩) 4 4] 22)) := heap_alloc_new W (.cells #[.slice (some ⟨A, 0, none⟩) 4 4, .slice (some ⟨A', 0, none⟩) 4 4] 22)
  have HPb : Hid (((W.alloc (.cells #[.slice (some ⟨A, 0, none⟩) 4 4, .slice (some ⟨A', 0, none⟩) 4 4] 22)).alloc (.cells #[.int .i64 0, .int .i64 0, .int .i64 0, .int .i64 0] 222)).drew.heap[W.heap.size]? = some (.cells #[.slice (some ⟨A, 0, none⟩) 4 4, .slice (some ⟨A', 0, none⟩) 4 4] 22)) := (Below.heap_alloc _ _ _ (by simp)).trans HPc.out
  have HXa : Hid (∀ w', Below ((W.alloc (.cells #[.int .i64 0, .int .i64 0, .int .i64 0, .int .i64 0] 222)).alloc (.cells #[.slice (some ⟨A, 0, none⟩) 4 4, .slice (some ⟨A', 0, none⟩) 4 4] 22)).drew.heap.size ((W.alloc (.cells #[.int .i64 0, .int .i64 0, .int .i64 0, .int .i64 0] 222)).alloc (.cells #[.slice (some ⟨A, 0, none⟩) 4 4, .slice (some ⟨A', 0, none⟩) 4 4] 22)).drew w' → ArrI w' W.heap.size 222 4 (fun _ => 0)) := fun w' h => ArrI.below ((ArrI.new W 4 222 (fun _ => 0)).alloc (.cells #[.slice (some ⟨A, 0, none⟩) 4 4, .slice (some ⟨A', 0, none⟩) 4 4] 22)).drew h ((ArrI.new W 4 222 (fun _ => 0)).alloc (.cells #[.slice (some ⟨A, 0, none⟩) 4 4, .slice (some ⟨A', 0, none⟩) 4 4] 22)).lt
  have HXb : Hid (∀ w', Below ((W.alloc (.cells #[.slice (some ⟨A, 0, none⟩) 4 4, .slice (some ⟨A', 0, none⟩) 4 4] 22)).alloc (.cells #[.int .i64 0, .int .i64 0, .int .i64 0, .int .i64 0] 222)).drew.heap.size ((W.alloc (.cells #[.slice (some ⟨A, 0, none⟩) 4 4, .slice (some ⟨A', 0, none⟩) 4 4] 22)).alloc (.cells #[.int .i64 0, .int .i64 0, .int .i64 0, .int .i64 0] 222)).drew w' → ArrI w' (W.heap.size + 1) 222 4 (fun _ => 0)) := fun w' h => ArrI.below (ArrI.new2 W (.cells #[.slice (some ⟨A, 0, none⟩) 4 4, .slice (some ⟨A', 0, none⟩) 4 4] 22) 4 222 (fun _ => 0)).drew h (ArrI.new2 W (.cells #[.slice (some ⟨A, 0, none⟩) 4 4, .slice (some ⟨A', 0, none⟩) 4 4] 22) 4 222 (fun _ => 0)).lt
  go_region_held3 (fun _ => True) (trivial)
    (first
      | (go_at_call 215; refine (HH.out _ _ (by first | with_reducible exact HBa.out | with_reducible exact HBb.out | with_reducible exact HBc.out) (by first | with_reducible exact HPa.out | with_reducible exact HPb.out | with_reducible exact HPc.out)).mono ?_; unfold d4; rintro e w' ⟨rfl, hbd⟩;
          (first
            | ((have hx : ArrI w' W.heap.size 222 4 (fun _ => 0) := by with_reducible exact HXa.out _ hbd); have zc0 := hx.cell (i := 0) (by decide); have yc0 := hx.frozen 0; have zc1 := hx.cell (i := 1) (by decide); have yc1 := hx.frozen 1; have zc2 := hx.cell (i := 2) (by decide); have yc2 := hx.frozen 2; have zc3 := hx.cell (i := 3) (by decide); have yc3 := hx.frozen 3; clear hx)
            | ((have hx : ArrI w' (W.heap.size + 1) 222 4 (fun _ => 0) := by with_reducible exact HXb.out _ hbd); have zc0 := hx.cell (i := 0) (by decide); have yc0 := hx.frozen 0; have zc1 := hx.cell (i := 1) (by decide); have yc1 := hx.frozen 1; have zc2 := hx.cell (i := 2) (by decide); have yc2 := hx.frozen 2; have zc3 := hx.cell (i := 3) (by decide); have yc3 := hx.frozen 3; clear hx)
            | skip)))
  · have hV : Below W.heap.size W w' := HBc.out.trans (hbd.mono HBc.out.size)
    have hA := ArrI.new w' 4 222 (zat (D x y))
    rw [an4] at hA
    exact hK _ _ (HT.out _ _ (hV.alloc hV.size _) hV.size hA _ _ _ _ _ _ _ _ _ _ _ _ _ _ _ _ _ _ _ _ _ _ _ _ _ _ _ _ _ _ _ _ _ _ _ _ _ _ _ _ _ _)
  · have hV : Below W.heap.size W w' := HBb.out.trans (hbd.mono HBb.out.size)
    have hA := arr4_set (HXb.out _ hbd) (zat (D x y))
    exact hK _ _ (HT.out _ _ ((((hV.setCell (p := ⟨W.heap.size + 1, 0, none⟩) (by show W.heap.size ≤ W.heap.size + 1; omega) _).setCell (p := ⟨W.heap.size + 1, 1, none⟩) (by show W.heap.size ≤ W.heap.size + 1; omega) _).setCell (p := ⟨W.heap.size + 1, 2, none⟩) (by show W.heap.size ≤ W.heap.size + 1; omega) _).setCell (p := ⟨W.heap.size + 1, 3, none⟩) (by show W.heap.size ≤ W.heap.size + 1; omega) _) (by omega) hA _ _ _ _ _ _ _ _ _ _ _ _ _ _ _ _ _ _ _ _ _ _ _ _ _ _ _ _ _ _ _ _ _ _ _ _ _ _ _ _ _ _)
  · have hV : Below W.heap.size W w' := HBa.out.trans (hbd.mono HBa.out.size)
    have hA := arr4_set (HXa.out _ hbd) (zat (D x y))
    exact hK _ _ (HT.out _ _ ((((hV.setCell (p := ⟨W.heap.size, 0, none⟩) (Nat.le_refl _) _).setCell (p := ⟨W.heap.size, 1, none⟩) (Nat.le_refl _) _).setCell (p := ⟨W.heap.size, 2, none⟩) (Nat.le_refl _) _).setCell (p := ⟨W.heap.size, 3, none⟩) (Nat.le_refl _) _) (Nat.le_refl _) hA _ _ _ _ _ _ _ _ _ _ _ _ _ _ _ _ _ _ _ _ _ _ _ _ _ _ _ _ _ _ _ _ _ _ _ _ _ _ _ _ _ _)

end Go.Proofs.YtfppkjpgihnibaaGreatDoor

namespace Go.Proofs.YtfppkjpgihnibaaGreatDoor
open Go.RowKit

def fs : Code → Code
  | .seq a _ => a
  | c => c
/-- what each part's root answers -/
def RootIH (q n d b s g B : Nat) (D : Nat → Nat → List Int) (M0 : Nat → Nat → Option (List Int)) (x m : Nat) : Prop := ∀ (M : Nat → Nat → Option (List Int)) (w : World), SpgAt w s b q n d → WlkAt w g B s → MapIs w B M → Sub M0 M → Snd M D → Calls Tryz.prog 171 #[.pointer (some ⟨g, 0, none⟩), gk x m] w (RootR D M B x m w)

set_option maxRecDepth 100000 in
set_option maxHeartbeats 8000000 in
theorem root5 (q n d b s g B x y c m w3s : Nat) (D : Nat → Nat → List Int) (M0 M : Nat → Nat → Option (List Int)) (w W3 : World) (ok : SpgOk q n d) (hD : ∀ a b, Dgst q (D a b)) (hm : m = x + lft c) (hc : y = x + c) (hx : x ≤ 1000000) (hy : y ≤ 1000000) (h2 : 2 ≤ c) (hDe : D x y = digl q n (1 :: (D x m ++ D m y)))
    (ih1 : RootIH q n d b s g B D M0 x m) (ih2 : RootIH q n d b s g B D M0 m y) (h0 : Sub M0 M) (hsn : Snd M D) (hM : MapIs W3 B M) (hs : SpgAt W3 s b q n d) (hw : WlkAt W3 g B s)
    (hk : W3.rowIs w.heap.size 212 2 (duo (.int .i64 (x : Int)) (.int .i64 (y : Int)))) (hr : ArrI W3 (w.heap.size + 1) 222 4 (fun _ => 0)) (hL : W3.rowIs w3s 212 2 (duo (.int .i64 (x : Int)) (.int .i64 (m : Int)))) (hR : W3.rowIs (w3s + 1) 212 2 (duo (.int .i64 (m : Int)) (.int .i64 (y : Int)))) (hgb : w.grownBy W3 (some B)) (hBl : B < w.heap.size) (hw3 : w.heap.size ≤ w3s) (K : Act → World → Prop) (hK : ∀ a w', (sq (sq (sq (sq rootCode)))).wp Tryz.prog (bodyPost Tryz.prog Tryz.f171 (RootR D M B x y w)) a w' → K a w') :
    (fs (sq (sq (sq rootCode)))).wp Tryz.prog (Exit.then K (bodyPost Tryz.prog Tryz.f171 (RootR D M B x y w))) (rA5 g w.heap.size w3s B x m y (fun _ => undef)) W3 := by
  have hmx : Tryz.prog.follows .mixedOrders = true := by kernel_rfl
  have hBg : B ≠ g := fun e => by
    obtain ⟨es, ck, h1, _⟩ := hM
    unfold WlkAt at hw
    rw [e, hw] at h1
    cases h1
  have hBs : B ≠ s := fun e => by
    obtain ⟨es, ck, h1, _⟩ := hM
    have := hs.f
    rw [e] at h1
    simp [World.cell?, h1] at this
  have hBb : B ≠ b := fun e => by
    obtain ⟨es, ck, h1, _⟩ := hM
    have := hs.p
    rw [e] at h1
    simp [World.cell?, h1] at this
  have hsl := hs.lt
  have hbl := hs.ltb
  have hgl := hw.lt
  have hws := hgb.size
  have hll := hL.lt
  have hrl := hR.lt
  have hkl := hk.lt
  have hrsl := hr.lt
  have HI1 := hid ih1
  have HI2 := hid ih2
  have HS := hid hs
  have HW := hid hw
  have HLc := hid hL
  have HRc := hid hR
  have H0 := hid h0
  have HMM := hid hM
  have HSN := hid hsn
  have HK4 := hid hk
  have HAr4 := hid hr
  have HG3 := hid hgb
  have HFin : Hid (∀ (A A' : Nat) (W : World) (σ : Nat → Value), σ 6 = .pointer (some ⟨A, 0, none⟩) → σ 7 = .pointer (some ⟨A', 0, none⟩) → ArrI W A 222 4 (zat (D x m)) → ArrI W A' 222 4 (zat (D m y)) → PMx D M B x m y true true W → W3.grownBy W (some B) → (sq (sq (sq (sq rootCode)))).wp Tryz.prog (bodyPost Tryz.prog Tryz.f171 (RootR D M B x y w)) (rA5 g w.heap.size w3s B x m y σ) W) :=
    fun A A' W σ e6 e7 hA2 hA4 hpm hg => root6 q n d b s g B x y c m A A' w3s D M w W σ ok hD hm hc hx hy h2 hDe e6 e7 hA2 hA4 hpm (HS.out.blocks (gb_blk hg hsl (Ne.symm hBs)) (gb_blk hg hbl (Ne.symm hBb))) (HW.out.block (gb_blk hg hgl (Ne.symm hBg))) (HK4.out.of_block (gb_blk hg hkl (by omega))) (HAr4.out.block (gb_blk hg hrsl (by omega))) (gb_trans HG3.out hg) hBl hBg
  clear hs hw hL hR h0 hM hsn hk hr hgb hDe ih1 ih2 hm hc hD ok
  refine wp_of_eq (c := .region 5 _ true) rfl ?_
  refine wp_region_any hmx ?_
  refine wpAny_invC (sInv D M g B x m y W3.heap.size W3 (rA5 g w.heap.size w3s B x m y)) ?step ?done (by kernel_rfl) _ _ ⟨fun _ => undef, rfl, gb_drew (gb_refl _ _), ⟨M, HMM.out, HSN.out, fun _ _ h => h, fun _ _ h => .inl h, fun h => by simp at h, fun h => by simp at h⟩, fun _ => ⟨by simp, fun k hk hl => ?first, fun h => by simp at h⟩, fun h => by simp at h, fun h => by simp at h⟩
  case first =>
    rcases Nat.lt_or_ge k 10 with g | g
    · simp [g] at hl
    · omega
  case step =>
    intro L a W hcl hI i hi
    obtain ⟨σ, rfl, hgb, hpm, hT, hF1, hF2⟩ := hI
    have hi10 : i < 10 := lt_of_ready hi
    have hun := unlisted_of_ready hi
    have hsz : i < L.size := by
      rcases Nat.lt_or_ge i L.size with g | g
      · exact g
      · have := (mem_ready.1 hi).1
        simp [Array.getElem?_eq_none g] at this
    have hWs := hgb.size
    by_cases h8 : i = 8
    · subst h8
      have hd : ∀ k, depB .any _ 4 8 k = true → L.getD k false = true := fun k hk => dep_of_ready hcl hi hk
      obtain ⟨h9, hTo, h67⟩ := hT hun
      have e2 := hTo 2 (by omega) (hd 2 (by kernel_rfl))
      have e5 := hTo 5 (by omega) (hd 5 (by kernel_rfl))
      obtain ⟨A, e6, hA1, hA2⟩ := hTo 6 (by omega) (hd 6 (by kernel_rfl))
      obtain ⟨A', e7, hA3, hA4⟩ := hTo 7 (by omega) (hd 7 (by kernel_rfl))
      have hne : A ≠ A' := fun e => h67 (hd 6 (by kernel_rfl)) (hd 7 (by kernel_rfl)) (by rw [e6, e7, e])
      simp only [sF] at e2 e5
      have z0 := hA2.cell (i := 0) (by omega)
      have z1 := hA2.cell (i := 1) (by omega)
      have z2 := hA2.cell (i := 2) (by omega)
      have z3 := hA2.cell (i := 3) (by omega)
      have y0 := hA2.frozen 0
      have y1 := hA2.frozen 1
      have y2 := hA2.frozen 2
      have y3 := hA2.frozen 3
      have HA5 := hid (arr4_set hA2 (zat (D x m)))
      have HA6 := hid (hA4.block (heap_set4 W A A' (Ne.symm hne) (.int .i64 (zat (D x m) 0)) (.int .i64 (zat (D x m) 1)) (.int .i64 (zat (D x m) 2)) (.int .i64 (zat (D x m) 3))))
      have HG5 := hid (gb_far (gb_far (gb_far (gb_far hgb hA1 0 (.int .i64 (zat (D x m) 0))) hA1 1 (.int .i64 (zat (D x m) 1))) hA1 2 (.int .i64 (zat (D x m) 2))) hA1 3 (.int .i64 (zat (D x m) 3)))
      have HP5 := hid (hpm.block (heap_set4 W A B (by omega) (.int .i64 (zat (D x m) 0)) (.int .i64 (zat (D x m) 1)) (.int .i64 (zat (D x m) 2)) (.int .i64 (zat (D x m) 3))))
      refine wpOp_step rfl (fun K' hK' => ?_)
      rw [if_pos (by rfl)]
      simp only [rA5, e2, e6, d4]
      clear hA2 hA4 hT hTo hF1 hF2
      go_simp
      refine hK' _ _ ⟨σ, by simp only [rA5, e2, e5, e6, e7, d4], HG5.out, ?_, fun h => ?_, fun _ _ => ⟨A, A', e6, e7, e5, hA1, hA3, hne, HA5.out, HA6.out⟩, fun h => ?_⟩
      · rw [getD_set_other (by omega), getD_set_other (by omega)]; exact HP5.out
      · rw [getD_set_same hsz] at h; cases h
      · rw [getD_set_other (by omega), h9] at h; cases h
    by_cases h9 : i = 9
    · subst h9
      have hd : ∀ k, depB .any _ 4 9 k = true → L.getD k false = true := fun k hk => dep_of_ready hcl hi hk
      obtain ⟨A, A', e6, e7, e5, hA1, hA3, hne, hA2, hA4⟩ := hF1 (hd 8 (by kernel_rfl)) hun
      have z0 := hA4.cell (i := 0) (by omega)
      have z1 := hA4.cell (i := 1) (by omega)
      have z2 := hA4.cell (i := 2) (by omega)
      have z3 := hA4.cell (i := 3) (by omega)
      have y0 := hA4.frozen 0
      have y1 := hA4.frozen 1
      have y2 := hA4.frozen 2
      have y3 := hA4.frozen 3
      have HA5 := hid (arr4_set hA4 (zat (D m y)))
      have HA6 := hid (hA2.block (heap_set4 W A' A hne (.int .i64 (zat (D m y) 0)) (.int .i64 (zat (D m y) 1)) (.int .i64 (zat (D m y) 2)) (.int .i64 (zat (D m y) 3))))
      have HG5 := hid (gb_far (gb_far (gb_far (gb_far hgb hA3 0 (.int .i64 (zat (D m y) 0))) hA3 1 (.int .i64 (zat (D m y) 1))) hA3 2 (.int .i64 (zat (D m y) 2))) hA3 3 (.int .i64 (zat (D m y) 3)))
      have HP5 := hid (hpm.block (heap_set4 W A' B (by omega) (.int .i64 (zat (D m y) 0)) (.int .i64 (zat (D m y) 1)) (.int .i64 (zat (D m y) 2)) (.int .i64 (zat (D m y) 3))))
      refine wpOp_step rfl (fun K' hK' => ?_)
      rw [if_pos (by rfl)]
      simp only [rA5, e5, e7, d4]
      clear hA2 hA4 hT hF1 hF2
      go_simp
      refine hK' _ _ ⟨σ, by simp only [rA5, e5, e6, e7, d4], HG5.out, ?_, fun h => ?_, fun h => ?_, fun _ => ⟨A, A', e6, e7, e5, hA1, hA3, hne, HA6.out, HA5.out⟩⟩
      · rw [getD_set_other (by omega), getD_set_other (by omega)]; exact HP5.out
      · rw [getD_set_other (by omega), hd 8 (by kernel_rfl)] at h; cases h
      · intro h'
        rw [getD_set_same hsz] at h'; cases h'
    have hn8 : L.getD 8 false = false := by
      rcases hx8 : L.getD 8 false with _ | _
      · rfl
      · have : L.getD i false = true := by
          have hdd : depB .any _ 4 8 i = true → L.getD i false = true := fun hd => dep_listed hcl 4 8 hd (fun o ho => hcl 8 o ho hx8)
          have h14 : i = 0 ∨ i = 1 ∨ i = 2 ∨ i = 3 ∨ i = 4 ∨ i = 5 ∨ i = 6 ∨ i = 7 := by omega
          rcases h14 with rfl | rfl | rfl | rfl | rfl | rfl | rfl | rfl <;> exact hdd (by kernel_rfl)
        rw [hun] at this; cases this
    obtain ⟨hn9, hTo, h67⟩ := hT hn8
    clear hT hF1 hF2
    have hlc0 := (gb_cell hgb (p := ⟨w3s, 0, none⟩) (by show w3s < _; omega) (by show w3s ≠ B; omega)).trans (HLc.out.cell (i := 0) (by omega))
    have hlc1 := (gb_cell hgb (p := ⟨w3s, 1, none⟩) (by show w3s < _; omega) (by show w3s ≠ B; omega)).trans (HLc.out.cell (i := 1) (by omega))
    have hrc0 := (gb_cell hgb (p := ⟨w3s + 1, 0, none⟩) (by show w3s + 1 < _; omega) (by show w3s + 1 ≠ B; omega)).trans (HRc.out.cell (i := 0) (by omega))
    have hrc1 := (gb_cell hgb (p := ⟨w3s + 1, 1, none⟩) (by show w3s + 1 < _; omega) (by show w3s + 1 ≠ B; omega)).trans (HRc.out.cell (i := 1) (by omega))
    simp only [duo] at hlc0 hlc1 hrc0 hrc1
    have HSW : Hid (SpgAt W s b q n d) := HS.out.blocks (gb_blk hgb hsl (Ne.symm hBs)) (gb_blk hgb hbl (Ne.symm hBb))
    have HWW : Hid (WlkAt W g B s) := HW.out.block (gb_blk hgb hgl (Ne.symm hBg))
    have h14 : i = 0 ∨ i = 1 ∨ i = 2 ∨ i = 3 ∨ i = 4 ∨ i = 5 ∨ i = 6 ∨ i = 7 := by omega
    rcases h14 with rfl | rfl | rfl | rfl | rfl | rfl | rfl | rfl
    · refine wpOp_step rfl (fun K' hK' => ?_)
      rw [if_pos (by rfl)]
      simp only [rA5]
      go_simp
      exact hK' _ _ (sInv_next (i := 0) (v := .pointer (some ⟨g, 0, none⟩)) (by omega) hn8 hn9 hTo hgb (fun _ _ h => h) rfl (by rw [getD_set_other (by omega), getD_set_other (by omega)]; exact hpm) (by rw [getD_set_other (by omega), getD_set_other (by omega)]; exact h67) rfl)
    · refine wpOp_step rfl (fun K' hK' => ?_)
      rw [if_pos (by rfl)]
      simp only [rA5]
      go_simp
      exact hK' _ _ (sInv_next (i := 1) (v := .agg #[.int .i64 (x : Int), .int .i64 (m : Int)]) (by omega) hn8 hn9 hTo hgb (fun _ _ h => h) rfl (by rw [getD_set_other (by omega), getD_set_other (by omega)]; exact hpm) (by rw [getD_set_other (by omega), getD_set_other (by omega)]; exact h67) rfl)
    · have e0 := hTo 0 (by omega) (dep_of_ready hcl hi (by kernel_rfl))
      have e1 := hTo 1 (by omega) (dep_of_ready hcl hi (by kernel_rfl))
      simp only [sF] at e0 e1
      obtain ⟨M', hM1, hM2, hM3, hM4, _, hM6⟩ := hpm
      have HCa := hid (HI1.out M' W HSW.out HWW.out hM1 (fun a b h => hM3 a b (H0.out a b h)) hM2)
      unfold gk RootR at HCa
      refine wpOp_step rfl (fun K' hK' => ?_)
      rw [if_pos (by rfl)]
      simp only [rA5, e0, e1]
      go_simp
      refine HCa.out.mono ?_
      rintro e w' ⟨rfl, ⟨M2, g1, g2, g3, g4, g5⟩, hg⟩
      refine hK' _ _ (sInv_next (i := 2) (v := d4 (D x m)) (by omega) hn8 hn9 hTo (gb_trans hgb hg) (sF_step (B := B) (by omega) hg) rfl ⟨M2, g1, g2, fun a b h => g3 a b (hM3 a b h), clM_trans hM4 g3 g4, fun _ => g5, fun h => g3 _ _ (hM6 (by rwa [getD_set_other (by omega)] at h))⟩ (by rw [getD_set_other (by omega), getD_set_other (by omega)]; exact h67) (by rw [an4]; simp only [rA5, upd', e0, e1, d4]; rfl))
    · refine wpOp_step rfl (fun K' hK' => ?_)
      rw [if_pos (by rfl)]
      simp only [rA5]
      go_simp
      exact hK' _ _ (sInv_next (i := 3) (v := .pointer (some ⟨g, 0, none⟩)) (by omega) hn8 hn9 hTo hgb (fun _ _ h => h) rfl (by rw [getD_set_other (by omega), getD_set_other (by omega)]; exact hpm) (by rw [getD_set_other (by omega), getD_set_other (by omega)]; exact h67) rfl)
    · refine wpOp_step rfl (fun K' hK' => ?_)
      rw [if_pos (by rfl)]
      simp only [rA5]
      go_simp
      exact hK' _ _ (sInv_next (i := 4) (v := .agg #[.int .i64 (m : Int), .int .i64 (y : Int)]) (by omega) hn8 hn9 hTo hgb (fun _ _ h => h) rfl (by rw [getD_set_other (by omega), getD_set_other (by omega)]; exact hpm) (by rw [getD_set_other (by omega), getD_set_other (by omega)]; exact h67) rfl)
    · have e0 := hTo 3 (by omega) (dep_of_ready hcl hi (by kernel_rfl))
      have e1 := hTo 4 (by omega) (dep_of_ready hcl hi (by kernel_rfl))
      simp only [sF] at e0 e1
      obtain ⟨M', hM1, hM2, hM3, hM4, hM6, _⟩ := hpm
      have HCa := hid (HI2.out M' W HSW.out HWW.out hM1 (fun a b h => hM3 a b (H0.out a b h)) hM2)
      unfold gk RootR at HCa
      refine wpOp_step rfl (fun K' hK' => ?_)
      rw [if_pos (by rfl)]
      simp only [rA5, e0, e1]
      go_simp
      refine HCa.out.mono ?_
      rintro e w' ⟨rfl, ⟨M2, g1, g2, g3, g4, g5⟩, hg⟩
      refine hK' _ _ (sInv_next (i := 5) (v := d4 (D m y)) (by omega) hn8 hn9 hTo (gb_trans hgb hg) (sF_step (B := B) (by omega) hg) rfl ⟨M2, g1, g2, fun a b h => g3 a b (hM3 a b h), clM_trans hM4 g3 g4, fun h => g3 _ _ (hM6 (by rwa [getD_set_other (by omega)] at h)), fun _ => g5⟩ (by rw [getD_set_other (by omega), getD_set_other (by omega)]; exact h67) (by rw [an4]; simp only [rA5, upd', e0, e1, d4]; rfl))
    · refine wpOp_step rfl (fun K' hK' => ?_)
      rw [if_pos (by rfl)]
      simp only [rA5]
      go_simp
      refine hK' _ _ (sInv_next (i := 6) (v := .pointer (some ⟨W.heap.size, 0, none⟩)) (by omega) hn8 hn9 hTo (gb_trans hgb (World.grownBy_alloc _ _ _)) (sF_step (B := B) (by omega) (World.grownBy_alloc _ _ _)) ⟨W.heap.size, rfl, hWs, ArrI.new W 4 222 (fun _ => 0)⟩ (by rw [getD_set_other (by omega), getD_set_other (by omega)]; exact hpm.block (Below.heap_alloc _ _ _ (by omega))) ?_ rfl)
      intro _ h7
      rw [getD_set_other (by omega)] at h7
      obtain ⟨A', e7, hA3, hA4⟩ := hTo 7 (by omega) h7
      have := hA4.lt
      show Value.pointer (some ⟨W.heap.size, 0, none⟩) ≠ σ 7
      rw [e7]
      intro e
      injection e with e
      injection e with e
      injection e with e
      omega
    · refine wpOp_step rfl (fun K' hK' => ?_)
      rw [if_pos (by rfl)]
      simp only [rA5]
      go_simp
      refine hK' _ _ (sInv_next (i := 7) (v := .pointer (some ⟨W.heap.size, 0, none⟩)) (by omega) hn8 hn9 hTo (gb_trans hgb (World.grownBy_alloc _ _ _)) (sF_step (B := B) (by omega) (World.grownBy_alloc _ _ _)) ⟨W.heap.size, rfl, hWs, ArrI.new W 4 222 (fun _ => 0)⟩ (by rw [getD_set_other (by omega), getD_set_other (by omega)]; exact hpm.block (Below.heap_alloc _ _ _ (by omega))) ?_ rfl)
      intro h6 _
      rw [getD_set_other (by omega)] at h6
      obtain ⟨A', e7, hA3, hA4⟩ := hTo 6 (by omega) h6
      have := hA4.lt
      show σ 6 ≠ Value.pointer (some ⟨W.heap.size, 0, none⟩)
      rw [e7]
      intro e
      injection e with e
      injection e with e
      injection e with e
      omega
  case done =>
    intro L a W hall hI
    obtain ⟨σ, rfl, hgb, hpm, hT, hF1, hF2⟩ := hI
    obtain ⟨A, A', e6, e7, e5, hA1, hA3, hne, hA2, hA4⟩ := hF2 (hall 9 (by decide))
    rw [hall 2 (by decide), hall 5 (by decide)] at hpm
    exact hK _ _ (HFin.out A A' W σ e6 e7 hA2 hA4 hpm hgb)

end Go.Proofs.YtfppkjpgihnibaaGreatDoor

namespace Go.Proofs.YtfppkjpgihnibaaGreatDoor
open Go.RowKit

set_option maxRecDepth 100000 in
set_option maxHeartbeats 4000000 in
theorem wroot_new (q n d b s g B x y c m : Nat) (D : Nat → Nat → List Int) (M0 M : Nat → Nat → Option (List Int)) (w : World) (ok : SpgOk q n d) (hD : ∀ a b, Dgst q (D a b)) (hs : SpgAt w s b q n d) (hw : WlkAt w g B s) (hM : MapIs w B M) (hx : x ≤ 1000000) (hy : y ≤ 1000000) (hc : y = x + c) (hm : m = x + lft c) (h2 : 2 ≤ c) (hd : M x y = none) (h0 : Sub M0 M) (hsn : Snd M D)
    (hDe : D x y = digl q n (1 :: (D x m ++ D m y))) (ih1 : RootIH q n d b s g B D M0 x m) (ih2 : RootIH q n d b s g B D M0 m y) :
    Calls Tryz.prog 171 #[.pointer (some ⟨g, 0, none⟩), gk x y] w (RootR D M B x y w) := by
  have HPT : Hid (∀ W, Calls Tryz.prog 214 #[.agg #[.int .i64 (x : Int), .int .i64 (y : Int)]] W fun e w' => e = .returned (.tuple #[.agg #[.int .i64 (x : Int), .int .i64 (m : Int)], .agg #[.int .i64 (m : Int), .int .i64 (y : Int)]]) ∧ Below W.heap.size W w') := fun W => by rw [hm]; exact parts_any x y c hc hy W
  unfold gk
  have HR := hid (rootW_new (x := x) (y := y) hw hM)
  have hgl := hw.lt
  have hBl := hM.lt
  have HROOT : Hid (∀ (w3s : Nat) (W3 : World), Below w.heap.size w W3 → W3.rowIs w.heap.size 212 2 (duo (.int .i64 (x : Int)) (.int .i64 (y : Int))) → ArrI W3 (w.heap.size + 1) 222 4 (fun _ => 0) → W3.rowIs w3s 212 2 (duo (.int .i64 (x : Int)) (.int .i64 (m : Int))) → W3.rowIs (w3s + 1) 212 2 (duo (.int .i64 (m : Int)) (.int .i64 (y : Int))) → w.heap.size ≤ w3s → ∀ K : Act → World → Prop, (∀ a w', (sq (sq (sq (sq rootCode)))).wp Tryz.prog (bodyPost Tryz.prog Tryz.f171 (RootR D M B x y w)) a w' → K a w') →
      (fs (sq (sq (sq rootCode)))).wp Tryz.prog (Exit.then K (bodyPost Tryz.prog Tryz.f171 (RootR D M B x y w))) (rA5 g w.heap.size w3s B x m y (fun _ => undef)) W3) := fun w3s W3 hb hk hr hL hRr hw3 K hK =>
    root5 q n d b s g B x y c m w3s D M0 M w W3 ok hD hm hc hx hy h2 hDe ih1 ih2 h0 hsn (hM.below hb hBl) (hs.keep hb) (hw.block (hb.block _ hgl)) hk hr hL hRr (gb_below hb) hBl hw3 K hK
  clear hw hM hc hm hs hD hsn h0 hDe ih1 ih2
  go_enter Tryz.func171, Tryz.ntmps171
  go_wp2_with fail
  generalize (w.alloc (.cells #[.int .i64 (x : Int), .int .i64 (y : Int)] 212)).alloc (.cells #[.int .i64 0, .int .i64 0, .int .i64 0, .int .i64 0] 222) = W1 at *
  have hsz := HR.out.size
  have HK : Hid (∀ W, Below W1.heap.size W1 W → W.cell? ⟨g, 1, none⟩ = some (.map (some B)) ∧ W.cell? ⟨w.heap.size, 0, none⟩ = some (.int .i64 (x : Int)) ∧ W.cell? ⟨w.heap.size, 1, none⟩ = some (.int .i64 (y : Int)) ∧ W.heap[B]? = W1.heap[B]?) := fun W h =>
    ⟨(h.cell (p := ⟨g, 1, none⟩) (by show g < _; omega)).trans HR.out.c1, (h.cell (p := ⟨w.heap.size, 0, none⟩) (by show w.heap.size < _; omega)).trans (HR.out.key.cell (i := 0) (by omega)), (h.cell (p := ⟨w.heap.size, 1, none⟩) (by show w.heap.size < _; omega)).trans (HR.out.key.cell (i := 1) (by omega)), h.block B (by omega)⟩
  have hLk : ∀ W, W.heap[B]? = W1.heap[B]? → (Instr.lookup 263 (.map (some B)) (.agg #[.int .i64 (x : Int), .int .i64 (y : Int)]) true).run Tryz.prog W = .ok (.tuple #[.agg #[.int .i64 0, .int .i64 0, .int .i64 0, .int .i64 0], .bool false]) W := fun W h => by
    have := (HR.out.map.block h).lookup (a := x) (b := y) (by omega) (by omega) true
    rw [hd, show gotv M x y = (fun _ => 0) from by unfold gotv; rw [hd], an4] at this
    exact this
  go_region_held3 (fun w' => w'.cell? ⟨g, 1, none⟩ = some (.map (some B)) ∧ w'.cell? ⟨w.heap.size, 0, none⟩ = some (.int .i64 (x : Int)) ∧ w'.cell? ⟨w.heap.size, 1, none⟩ = some (.int .i64 (y : Int)) ∧ w'.heap[B]? = W1.heap[B]?)
    (first | exact HK.out _ (Below.refl _ _).drew | exact HK.out _ ((Below.refl _ _).drew.alloc (Nat.le_refl _) _)) (fail)
  all_goals (
    have HKe := hid (HR.out.key.alloc (.cells #[.int .i64 0, .int .i64 0, .int .i64 0, .int .i64 0] 222))
    have HAr := hid (HR.out.res.alloc (.cells #[.int .i64 0, .int .i64 0, .int .i64 0, .int .i64 0] 222)).drew
    have HBe : Hid (Below w.heap.size w (W1.alloc (.cells #[.int .i64 0, .int .i64 0, .int .i64 0, .int .i64 0] 222)).drew) := (HR.out.below.alloc (by omega) _).drew
    have HS2 : Hid ((W1.alloc (.cells #[.int .i64 0, .int .i64 0, .int .i64 0, .int .i64 0] 222)).drew.heap.size = w.heap.size + 3) := by unfold Hid; show (W1.alloc _).heap.size = _; simp; omega
    have hk0 : (W1.alloc (.cells #[.int .i64 0, .int .i64 0, .int .i64 0, .int .i64 0] 222)).drew.cell? ⟨w.heap.size, 0, none⟩ = some (.int .i64 (x : Int)) := HKe.out.cell (i := 0) (by omega)
    have hk1 : (W1.alloc (.cells #[.int .i64 0, .int .i64 0, .int .i64 0, .int .i64 0] 222)).drew.cell? ⟨w.heap.size, 1, none⟩ = some (.int .i64 (y : Int)) := HKe.out.cell (i := 1) (by omega)
    have HKe2 : Hid ((W1.alloc (.cells #[.int .i64 0, .int .i64 0, .int .i64 0, .int .i64 0] 222)).drew.rowIs w.heap.size 212 2 (duo (.int .i64 (x : Int)) (.int .i64 (y : Int)))) := HKe.out
    clear HK hLk HR hsz HKe
    generalize (W1.alloc (.cells #[.int .i64 0, .int .i64 0, .int .i64 0, .int .i64 0] 222)).drew = W2 at *
    go_wp2_with fail
    refine (HPT.out W2).mono ?_
    rintro e w3 ⟨rfl, hb3⟩
    have HB3 := hid (HBe.out.trans (hb3.mono (by rw [HS2.out]; omega)))
    have HAr3 := hid (HAr.out.block (hb3.block _ HAr.out.lt))
    have HK3 : Hid (w3.rowIs w.heap.size 212 2 (duo (.int .i64 (x : Int)) (.int .i64 (y : Int)))) := HKe2.out.of_block (hb3.block _ HKe2.out.lt)
    have hs3 : w.heap.size + 3 ≤ w3.heap.size := by have := hb3.size; rw [HS2.out] at this; exact this
    clear hb3 hk0 hk1 HAr HKe2 HBe HS2
    go_wp2_with fail
    have HLc := hid ((duo_new w3 212 (.int .i64 (x : Int)) (.int .i64 (m : Int))).alloc (.cells #[.int .i64 (m : Int), .int .i64 (y : Int)] 212))
    have HRc : Hid (((w3.alloc (.cells #[.int .i64 (x : Int), .int .i64 (m : Int)] 212)).alloc (.cells #[.int .i64 (m : Int), .int .i64 (y : Int)] 212)).rowIs (w3.heap.size + 1) 212 2 (duo (.int .i64 (m : Int)) (.int .i64 (y : Int)))) := by
      have := duo_new (w3.alloc (.cells #[.int .i64 (x : Int), .int .i64 (m : Int)] 212)) 212 (.int .i64 (m : Int)) (.int .i64 (y : Int))
      rwa [show (w3.alloc (.cells #[.int .i64 (x : Int), .int .i64 (m : Int)] 212)).heap.size = w3.heap.size + 1 from by simp] at this
    have HB33 : Hid (Below w3.heap.size w3 ((w3.alloc (.cells #[.int .i64 (x : Int), .int .i64 (m : Int)] 212)).alloc (.cells #[.int .i64 (m : Int), .int .i64 (y : Int)] 212))) := ((Below.refl _ _).alloc (Nat.le_refl _) _).alloc (by simp) _
    have hs4 : ((w3.alloc (.cells #[.int .i64 (x : Int), .int .i64 (m : Int)] 212)).alloc (.cells #[.int .i64 (m : Int), .int .i64 (y : Int)] 212)).heap.size = w3.heap.size + 2 := by simp
    generalize (w3.alloc (.cells #[.int .i64 (x : Int), .int .i64 (m : Int)] 212)).alloc (.cells #[.int .i64 (m : Int), .int .i64 (y : Int)] 212) = W3 at *
    have HBW : Hid (Below w.heap.size w W3) := HB3.out.trans (HB33.out.mono (by omega))
    have HAr4 := hid (HAr3.out.below HB33.out (by omega))
    have HK4 : Hid (W3.rowIs w.heap.size 212 2 (duo (.int .i64 (x : Int)) (.int .i64 (y : Int)))) := HK3.out.of_block (HB33.out.block _ (by omega))
    exact HROOT.out w3.heap.size W3 HBW.out HK4.out HAr4.out HLc.out HRc.out (by omega) _ (by assumption))

/-- a walk's root -/
theorem wroot_any (q n d b s g B : Nat) (D : Nat → Nat → List Int) (M0 : Nat → Nat → Option (List Int)) (ok : SpgOk q n d) (hD : ∀ a b, Dgst q (D a b)) {x y : Nat} (h : Rdy q n D M0 x y) (hxy : x ≤ y) (hy : y ≤ 1000000) : RootIH q n d b s g B D M0 x y := by
  induction h with
  | @found x y hf =>
    intro M w hs hw hM h0 hsn
    obtain ⟨dl, hdl⟩ := Option.ne_none_iff_exists'.1 (h0 x y hf)
    have := hsn x y dl hdl
    subst this
    refine (wroot_found s g B x y (D x y) M w hw hM (by omega) hy hdl).mono ?_
    rintro e w' ⟨rfl, hb⟩
    exact ⟨rfl, ⟨M, hM.below hb hM.lt, hsn, fun _ _ h => h, fun _ _ h => .inl h, by rw [hdl]; simp⟩, gb_below hb⟩
  | @node x y h2 hDe _ _ ih1 ih2 =>
    intro M w hs hw hM h0 hsn
    obtain ⟨_, l2, l3⟩ := lft_spec (y - x)
    have l3' := l3 h2
    cases hd : M x y with
    | some dl =>
      have := hsn x y dl hd
      subst this
      refine (wroot_found s g B x y (D x y) M w hw hM (by omega) hy hd).mono ?_
      rintro e w' ⟨rfl, hb⟩
      exact ⟨rfl, ⟨M, hM.below hb hM.lt, hsn, fun _ _ h => h, fun _ _ h => .inl h, by rw [hd]; simp⟩, gb_below hb⟩
    | none => exact wroot_new q n d b s g B x y (y - x) (x + lft (y - x)) D M0 M w ok hD hs hw hM (by omega) hy (by omega) rfl h2 hd h0 hsn hDe (ih1 (by omega) (by omega)) (ih2 (by omega) hy)

end Go.Proofs.YtfppkjpgihnibaaGreatDoor

namespace Go.Proofs.YtfppkjpgihnibaaGreatDoor
open Go.RowKit

theorem opn_c0 {W : World} {O : Nat} {a b c : Value} {t : TypeId} (h : W.heap[O]? = some (.cells #[a, b, c] t (0, 0))) : W.cell? ⟨O, 0, none⟩ = some a := by simp [World.cell?, h]
theorem opn_c1 {W : World} {O : Nat} {a b c : Value} {t : TypeId} (h : W.heap[O]? = some (.cells #[a, b, c] t (0, 0))) : W.cell? ⟨O, 1, none⟩ = some b := by simp [World.cell?, h]
theorem opn_c2 {W : World} {O : Nat} {a b c : Value} {t : TypeId} (h : W.heap[O]? = some (.cells #[a, b, c] t (0, 0))) : W.cell? ⟨O, 2, none⟩ = some c := by simp [World.cell?, h]
/-- is it right by its form? -/
def okb (N : Int) (root ps : List Int) (rows nodes : List (List Int)) : Prop := 1 ≤ N ∧ N ≤ 65536 ∧ root.length = 4 ∧ shwn N.toNat ps rows nodes

set_option maxRecDepth 100000 in
set_option maxHeartbeats 2000000 in
theorem checked_no (s c4 cp cr cn : Nat) (a4 ap ar an' : Option Addr) (root : List Int) (N : Int) (ps : List Int) (rows nodes : List (List Int)) (w : World) (hN1 : -9223372036854775808 ≤ N) (hN2 : N ≤ 9223372036854775807) (hpl : ps.length ≤ 281474976710656) (hnl : nodes.length ≤ 281474976710656) (hp : Lst w.heap.size w ap cp ps) (hn : LstR w.heap.size w an' cn nodes) (hno : ¬ okb N root ps rows nodes) :
    Calls Tryz.prog 184 #[.pointer (some ⟨s, 0, none⟩), .slice a4 root.length c4, .int .i64 N, .agg #[.slice ap ps.length cp, .slice ar rows.length cr, .slice an' nodes.length cn]] w fun e w' => e = .returned (.tuple #[.pointer none, .bool false]) ∧ Below w.heap.size w w' := by
  have HB0 : Hid (Below w.heap.size w (w.alloc (.cells #[.slice ap ps.length cp, .slice ar rows.length cr, .slice an' nodes.length cn] 107))) := (Below.refl _ _).alloc (Nat.le_refl _) _
  have HO := hid (tri_arr (tri_new w 107 (.slice ap ps.length cp) (.slice ar rows.length cr) (.slice an' nodes.length cn)))
  have HNO := hid hno
  have HL := hid hp
  have HNL := hid hn
  have HI := hid (fun W => issize_any N W)
  have HD := hid (fun W => isdigest_any a4 root.length c4 W)
  clear hno hp hn
  by_cases hsz : 1 ≤ N ∧ N ≤ 65536
  · have hb : (decide (1 ≤ N) && decide (N ≤ 65536)) = true := by simp; exact hsz
    rw [hb] at HI
    obtain ⟨M, rfl⟩ := Int.eq_ofNat_of_zero_le (show 0 ≤ N by omega)
    by_cases h4 : root.length = 4
    · rw [decide_eq_true h4, h4] at HD
      rw [h4]
      have HS : Hid (∀ W, Below w.heap.size w W → Calls Tryz.prog 224 #[.agg #[.int .i64 0, .int .i64 (M : Int)], .agg #[.slice ap ps.length cp, .slice ar rows.length cr, .slice an' nodes.length cn]] W fun e w' => e = .returned (.bool false) ∧ Below W.heap.size W w') := fun W h => by
        refine (isshown_any M cp cr cn ap ar an' ps rows nodes W (by omega) (by omega) hpl hnl ((HL.out.below h).mono h.size) ((HNL.out.below h).mono h.size)).mono ?_
        rintro e w' ⟨⟨t, rfl, ht⟩, hb⟩
        refine ⟨?_, hb⟩
        cases t with
        | false => rfl
        | true => exact absurd ⟨hsz.1, hsz.2, h4, by rw [Int.toNat_natCast]; exact ht.1 rfl⟩ HNO.out
      clear h4 hb
      go_enter Tryz.func184, Tryz.ntmps184
      go_wp2_with fail
      generalize w.alloc (.cells #[.slice ap ps.length cp, .slice ar rows.length cr, .slice an' nodes.length cn] 107) = W0 at *
      refine (HI.out W0).mono ?_
      rintro e w1 ⟨rfl, rfl⟩
      go_wp2_with fail
      refine (HD.out w1).mono ?_
      rintro e w2 ⟨rfl, rfl⟩
      have k0 := opn_c0 HO.out
      have k1 := opn_c1 HO.out
      have k2 := opn_c2 HO.out
      go_wp2_with fail
      refine (HS.out w2 HB0.out).mono ?_
      rintro e w3 ⟨rfl, hb3⟩
      have HB3 : Hid (Below w.heap.size w w3) := HB0.out.trans (hb3.mono HB0.out.size)
      clear hb3
      go_wp2_with fail
      go_ret2
      exact ⟨rfl, HB3.out⟩
    · rw [decide_eq_false h4] at HD
      clear h4 hb
      go_enter Tryz.func184, Tryz.ntmps184
      go_wp2_with fail
      generalize w.alloc (.cells #[.slice ap ps.length cp, .slice ar rows.length cr, .slice an' nodes.length cn] 107) = W0 at *
      refine (HI.out W0).mono ?_
      rintro e w1 ⟨rfl, rfl⟩
      go_wp2_with fail
      refine (HD.out w1).mono ?_
      rintro e w2 ⟨rfl, rfl⟩
      go_wp2_with fail
      go_ret2
      exact ⟨rfl, HB0.out⟩
  · have hb : (decide (1 ≤ N) && decide (N ≤ 65536)) = false := by rw [Bool.eq_false_iff]; intro h; simp at h; exact hsz h
    rw [hb] at HI
    clear hsz hb
    go_enter Tryz.func184, Tryz.ntmps184
    go_wp2_with fail
    generalize w.alloc (.cells #[.slice ap ps.length cp, .slice ar rows.length cr, .slice an' nodes.length cn] 107) = W0 at *
    refine (HI.out W0).mono ?_
    rintro e w1 ⟨rfl, rfl⟩
    go_wp2_with fail
    go_ret2
    exact ⟨rfl, HB0.out⟩

end Go.Proofs.YtfppkjpgihnibaaGreatDoor

namespace Go.Proofs.YtfppkjpgihnibaaGreatDoor
open Go.RowKit

theorem eqI_run (n : Nat) (a b : Int) (w : World) : (Op.equalIn (n + 1) 3 (.int .i64 a) (.int .i64 b)).run Tryz.prog w = .ok (a == b) w := by
  simp [Op.equalIn, run_underlying Tryz.underlying3, Result.andThen]
theorem part_run (cs : Array Value) (i : Nat) (v : Value) (h : cs[i]? = some v) (w : World) : (part 3 cs i).run Tryz.prog w = .ok v w := by
  simp [part, Tryz.isAgg3, h, Result.andThen]
theorem eq4_run (a0 a1 a2 a3 b0 b1 b2 b3 : Int) (w : World) : (Op.equalIn 10000 222 (.agg #[.int .i64 a0, .int .i64 a1, .int .i64 a2, .int .i64 a3]) (.agg #[.int .i64 b0, .int .i64 b1, .int .i64 b2, .int .i64 b3])).run Tryz.prog w = .ok (a0 == b0 && (a1 == b1 && (a2 == b2 && a3 == b3))) w := by
  have e : ∀ (x y : Int), (Op.equalIn 9999 3 (.int .i64 x) (.int .i64 y)).run Tryz.prog w = .ok (x == y) w := fun x y => eqI_run 9998 x y w
  rw [show (10000 : Nat) = 9999 + 1 from rfl]
  unfold Op.equalIn
  simp only [Sem.run_bind, run_underlying Tryz.underlying222, Result.andThen_ok, Tryz.sizeOf3]
  have p0 : ∀ (x0 x1 x2 x3 : Value), (part 3 #[x0, x1, x2, x3] (0 * 1)).run Tryz.prog w = .ok x0 w := fun x0 x1 x2 x3 => part_run _ _ _ rfl w
  have p1 : ∀ (x0 x1 x2 x3 : Value), (part 3 #[x0, x1, x2, x3] (1 * 1)).run Tryz.prog w = .ok x1 w := fun x0 x1 x2 x3 => part_run _ _ _ rfl w
  have p2 : ∀ (x0 x1 x2 x3 : Value), (part 3 #[x0, x1, x2, x3] (2 * 1)).run Tryz.prog w = .ok x2 w := fun x0 x1 x2 x3 => part_run _ _ _ rfl w
  have p3 : ∀ (x0 x1 x2 x3 : Value), (part 3 #[x0, x1, x2, x3] (3 * 1)).run Tryz.prog w = .ok x3 w := fun x0 x1 x2 x3 => part_run _ _ _ rfl w
  rw [Std.Legacy.Range.forIn_eq_forIn_range']
  show ((Sem.run Tryz.prog (forIn [0, 1, 2, 3] _ _) w).andThen _) = _
  simp only [List.forIn_cons, List.forIn_nil, Sem.run_bind, p0, e, Result.andThen_ok]
  cases h0 : (a0 == b0) <;> cases h1 : (a1 == b1) <;> cases h2 : (a2 == b2) <;> cases h3 : (a3 == b3) <;> simp [h1, h2, h3, p1, p2, p3, e, Result.andThen]
theorem eq4_dec {x y : List Int} (hx : x.length = 4) (hy : y.length = 4) : (zat x 0 == zat y 0 && (zat x 1 == zat y 1 && (zat x 2 == zat y 2 && zat x 3 == zat y 3))) = decide (x = y) := by
  obtain ⟨a0, a1, a2, a3, rfl⟩ : ∃ a0 a1 a2 a3, x = [a0, a1, a2, a3] := by
    match x, hx with
    | [a0, a1, a2, a3], _ => exact ⟨a0, a1, a2, a3, rfl⟩
  obtain ⟨b0, b1, b2, b3, rfl⟩ : ∃ b0 b1 b2 b3, y = [b0, b1, b2, b3] := by
    match y, hy with
    | [b0, b1, b2, b3], _ => exact ⟨b0, b1, b2, b3, rfl⟩
  rw [Bool.eq_iff_iff]
  simp [zat]
theorem eqd_run {x y : List Int} (hx : x.length = 4) (hy : y.length = 4) (w : World) : (Op.equalIn 10000 222 (.agg #[.int .i64 (zat x 0), .int .i64 (zat x 1), .int .i64 (zat x 2), .int .i64 (zat x 3)]) (.agg #[.int .i64 (zat y 0), .int .i64 (zat y 1), .int .i64 (zat y 2), .int .i64 (zat y 3)])).run Tryz.prog w = .ok (decide (x = y)) w := by
  rw [eq4_run, eq4_dec hx hy]
end Go.Proofs.YtfppkjpgihnibaaGreatDoor

namespace Go.Proofs.YtfppkjpgihnibaaGreatDoor
open Go.RowKit

theorem gcs_at : ∀ (l : List (Nat × Nat)) (k : Nat), k < l.length → (gcs l)[k * 2]? = some (.int .i64 ((l.getD k (0, 0)).1 : Int)) ∧ (gcs l)[k * 2 + 1]? = some (.int .i64 ((l.getD k (0, 0)).2 : Int))
  | [], _, h => by simp at h
  | g :: l, 0, _ => by simp [gcs]
  | g :: l, k + 1, h => by
    have := gcs_at l k (by simpa using h)
    simp only [gcs, List.flatMap_cons] at this ⊢
    rw [show (k + 1) * 2 = (k * 2) + 2 by omega, show (k * 2) + 2 + 1 = (k * 2 + 1) + 2 by omega]
    simpa using this
theorem ownG_cells {base : Nat} {w : World} {v : Value} {l : List (Nat × Nat)} (h : OwnG base w v l) {k : Nat} (hk : k < l.length) : ∃ gv, v = .slice (some ⟨gv, 0, none⟩) l.length (match v with | .slice _ _ c => c | _ => 0) ∧ base ≤ gv ∧ gv < w.heap.size ∧ w.cell? ⟨gv, k * 2, none⟩ = some (.int .i64 ((l.getD k (0, 0)).1 : Int)) ∧ w.cell? ⟨gv, k * 2 + 1, none⟩ = some (.int .i64 ((l.getD k (0, 0)).2 : Int)) := by
  rcases h.2 with ⟨_, h0⟩ | ⟨g, cap, cur, rfl, hb, hg, hn, hm, hs, ht⟩
  · omega
  · obtain ⟨e1, e2⟩ := gcs_at l k hk
    rw [← ht, List.getElem?_take, if_pos (by omega)] at e1 e2
    refine ⟨g, rfl, hb, (Array.getElem?_eq_some_iff.1 hg).1, ?_, ?_⟩
    · simp only [World.cell?, hg]
      simpa using e1
    · simp only [World.cell?, hg]
      simpa using e2
/-- what stands while a walk goes on -/
structure CkW (w : World) (g B s : Nat) (opn : Array Value) (W : World) (M : Nat → Nat → Option (List Int)) : Prop where
  below : Below w.heap.size w W
  opn : W.heap[w.heap.size]? = some (.cells opn 107 (0, 0))
  wlk : WlkAt W g B s
  map : MapIs W B M
theorem CkW.gb {w : World} {g B s : Nat} {opn : Array Value} {W W' : World} {M M' : Nat → Nat → Option (List Int)} (h : CkW w g B s opn W M) (hB : w.heap.size < B) (e : W.grownBy W' (some B)) (hM : MapIs W' B M') : CkW w g B s opn W' M' := by
  have hBg : g ≠ B := fun e' => by
    obtain ⟨es, ck, h1, _⟩ := h.map
    have h2 := h.wlk
    unfold WlkAt at h2
    rw [e', h1] at h2
    cases h2
  refine ⟨⟨e.os.trans h.below.os, e.tape.trans h.below.tape, e.output.trans h.below.output, Nat.le_trans h.below.size e.size, fun k hk => (gb_blk e (by have := h.below.size; omega) (by omega)).trans (h.below.block k hk)⟩, (gb_blk e (Array.getElem?_eq_some_iff.1 h.opn).1 (by omega)).trans h.opn, h.wlk.block (gb_blk e h.wlk.lt hBg), hM⟩
theorem CkW.bl {w : World} {g B s : Nat} {opn : Array Value} {W W' : World} {M : Nat → Nat → Option (List Int)} (h : CkW w g B s opn W M) (e : Below W.heap.size W W') : CkW w g B s opn W' M :=
  ⟨h.below.trans (e.mono h.below.size), (e.block _ (Array.getElem?_eq_some_iff.1 h.opn).1).trans h.opn, h.wlk.block (e.block _ h.wlk.lt), h.map.below e h.map.lt⟩

/-- a walk that has come to its root -/
def WlkDone (q n N : Nat) (ps : List Int) (rows nodes : List (List Int)) (w : World) (g B s : Nat) (w' : World) : Prop :=
  w.heap.size < B ∧ WlkAt w' g B s ∧ Below w.heap.size w w' ∧ ∃ M', MapIs w' B M' ∧ Snd M' (DV q n (M0 q n N ps rows nodes)) ∧ ClM (M0 q n N ps rows nodes) M' ∧ M' 0 N ≠ none
theorem CkW.done {q n N : Nat} {ps : List Int} {rows nodes : List (List Int)} {w : World} {g B s : Nat} {opn : Array Value} {W : World} (hB : w.heap.size < B) (h : ∃ M', CkW w g B s opn W M' ∧ Snd M' (DV q n (M0 q n N ps rows nodes)) ∧ ClM (M0 q n N ps rows nodes) M' ∧ M' 0 N ≠ none) : WlkDone q n N ps rows nodes w g B s W := by
  obtain ⟨M', h1, h2, h3, h4⟩ := h
  exact ⟨hB, h1.wlk, h1.below, M', h1.map, h2, h3, h4⟩

set_option maxRecDepth 100000 in
set_option maxHeartbeats 2000000 in
theorem checked_yes (q n d b s c4 cp cr cn : Nat) (a4 ap ar an' : Option Addr) (root : List Int) (N : Nat) (ps : List Int) (rows nodes : List (List Int)) (w : World) (hs1 : 1 ≤ N) (hs2 : N ≤ 65536) (h4 : root.length = 4) (hsh : shwn N ps rows nodes) (ok : SpgOk q n d) (hs : SpgAt w s b q n d) (hpl : ps.length ≤ 281474976710656) (hnl : nodes.length ≤ 281474976710656) (hf4 : Fits root) (hfp : Fits ps) (hfr : FitsR rows) (hfn : FitsR nodes) (hl4 : Lst w.heap.size w a4 c4 root) (hp : Lst w.heap.size w ap cp ps) (hr : LstR w.heap.size w ar cr rows) (hn : LstR w.heap.size w an' cn nodes) :
    Calls Tryz.prog 184 #[.pointer (some ⟨s, 0, none⟩), .slice a4 root.length c4, .int .i64 (N : Int), .agg #[.slice ap ps.length cp, .slice ar rows.length cr, .slice an' nodes.length cn]] w fun e w' => ∃ g B, e = .returned (.tuple #[.pointer (some ⟨g, 0, none⟩), .bool (decide (DV q n (M0 q n N ps rows nodes) 0 N = elr q root))]) ∧ WlkDone q n N ps rows nodes w g B s w' := by
  have HB0 : Hid (Below w.heap.size w (w.alloc (.cells #[.slice ap ps.length cp, .slice ar rows.length cr, .slice an' nodes.length cn] 107))) := (Below.refl _ _).alloc (Nat.le_refl _) _
  have HO := hid (tri_arr (tri_new w 107 (.slice ap ps.length cp) (.slice ar rows.length cr) (.slice an' nodes.length cn)))
  have HSH := hid hsh
  have HL := hid hp
  have HNL := hid hn
  have HI := hid (fun W => issize_any (N : Int) W)
  rw [show (decide (1 ≤ (N : Int)) && decide ((N : Int) ≤ 65536)) = true by simp; omega] at HI
  have HD := hid (fun W => isdigest_any a4 root.length c4 W)
  rw [decide_eq_true h4, h4] at HD
  rw [h4]
  have HS : Hid (∀ W, Below w.heap.size w W → Calls Tryz.prog 224 #[.agg #[.int .i64 0, .int .i64 (N : Int)], .agg #[.slice ap ps.length cp, .slice ar rows.length cr, .slice an' nodes.length cn]] W fun e w' => e = .returned (.bool true) ∧ Below W.heap.size W w') := fun W h => by
    refine (isshown_any N cp cr cn ap ar an' ps rows nodes W hs1 hs2 hpl hnl ((HL.out.below h).mono h.size) ((HNL.out.below h).mono h.size)).mono ?_
    rintro e w' ⟨⟨t, rfl, ht⟩, hb⟩
    exact ⟨by rw [ht.2 HSH.out], hb⟩
  clear hsh hp hn
  go_enter Tryz.func184, Tryz.ntmps184
  go_wp2_with fail
  generalize w.alloc (.cells #[.slice ap ps.length cp, .slice ar rows.length cr, .slice an' nodes.length cn] 107) = W0 at *
  refine (HI.out W0).mono ?_
  rintro e w1 ⟨rfl, rfl⟩
  go_wp2_with fail
  refine (HD.out w1).mono ?_
  rintro e w2 ⟨rfl, rfl⟩
  have k0 := opn_c0 HO.out
  have k1 := opn_c1 HO.out
  have k2 := opn_c2 HO.out
  go_wp2_with fail
  refine (HS.out w2 HB0.out).mono ?_
  rintro e w3 ⟨rfl, hb3⟩
  have HB3 : Hid (Below w.heap.size w w3) := HB0.out.trans (hb3.mono HB0.out.size)
  have HO3 : Hid (w3.heap[w.heap.size]? = some (.cells #[.slice ap ps.length cp, .slice ar rows.length cr, .slice an' nodes.length cn] 107 (0, 0))) := (hb3.block _ (Array.getElem?_eq_some_iff.1 HO.out).1).trans HO.out
  clear hb3
  have HNW := hid (newwalk_any s w3)
  go_wp2_with fail
  refine HNW.out.mono ?_
  rintro e w4 ⟨rfl, hwl, hmp, hsz, hb4⟩
  have HCK : Hid (CkW w (w3.heap.size + 1) w3.heap.size s #[.slice ap ps.length cp, .slice ar rows.length cr, .slice an' nodes.length cn] w4 (fun _ _ => none)) := ⟨HB3.out.trans (hb4.mono HB3.out.size), (hb4.block _ (Array.getElem?_eq_some_iff.1 HO3.out).1).trans HO3.out, hwl, hmp⟩
  have hB1 : w.heap.size < w3.heap.size := (Array.getElem?_eq_some_iff.1 HO3.out).1
  have hB2 : w4.heap.size = w3.heap.size + 2 := hsz
  have k0' := opn_c0 HCK.out.opn
  clear hwl hmp hb4 hsz HB3 HO3 HNW HS HD HI HO HB0 k0 k1 k2
  have HHI : Hid (∀ W, Below w4.heap.size w4 W → Calls Tryz.prog 169 #[.agg #[.int .i64 0, .int .i64 (N : Int)], .slice ap ps.length cp] W fun e w' => ∃ v, e = .returned v ∧ OwnG w4.heap.size w' v (hd2 ps N 0 N) ∧ Below w4.heap.size w4 w') := fun W h => by
    have hsg := seg_all (N := N) (ps := ps) (fun x hx => by
      obtain ⟨j, hj, rfl⟩ := mem_zat hx
      have := HSH.out.2.1 j hj
      omega)
    have hbw := HCK.out.below.trans (h.mono HCK.out.below.size)
    have := hidden_any ps (asc_of HSH.out.2.1) N 0 N hs1 (Nat.le_refl _) (by omega) cp ap W (by rw [hsg]; exact (HL.out.below hbw).mono hbw.size)
    rw [hsg, Nat.zero_add] at this
    refine this.mono ?_
    rintro e w5 ⟨v, rfl, hov, hb5⟩
    exact ⟨v, rfl, hov.mono h.size, h.trans (hb5.mono h.size)⟩
  go_wp2_with fail
  refine (HHI.out w4 (Below.refl _ _)).mono ?_
  rintro e w5 ⟨v, rfl, hov, hb5⟩
  have HOV := hid hov
  have HCK5 := hid (HCK.out.bl hb5)
  have hs5 := hb5.size
  obtain ⟨hl, hhl⟩ : ∃ hl, hl = (hd2 ps N 0 N).length := ⟨_, rfl⟩
  have HHL := hid hhl
  obtain ⟨av, c5, rfl⟩ : ∃ av c5, v = .slice av hl c5 := by
    rcases hov.2 with ⟨rfl, h0⟩ | ⟨g5, c5, _, rfl, _⟩
    · exact ⟨none, 0, by rw [hhl, h0]⟩
    · exact ⟨_, _, by rw [hhl]⟩
  have hll : hl ≤ 65536 := by have := hd2_len ps N 0 N hs1 (Nat.le_refl _); omega
  have HCEL : Hid (∀ (W : World), w5.grownBy W (some w3.heap.size) → ∀ k, k < hl → ∃ gv, av = some ⟨gv, 0, none⟩ ∧ W.cell? ⟨gv, k * 2, none⟩ = some (.int .i64 (((hd2 ps N 0 N).getD k (0, 0)).1 : Int)) ∧ W.cell? ⟨gv, k * 2 + 1, none⟩ = some (.int .i64 (((hd2 ps N 0 N).getD k (0, 0)).2 : Int))) := fun W hW k hk => by
    rw [hhl] at hk
    obtain ⟨gv, e1, e2, e3, e4, e5⟩ := ownG_cells HOV.out hk
    simp only [Value.slice.injEq] at e1
    exact ⟨gv, e1.1, (gb_cell hW (p := ⟨gv, k * 2, none⟩) e3 (by show gv ≠ _; omega)).trans e4, (gb_cell hW (p := ⟨gv, k * 2 + 1, none⟩) e3 (by show gv ≠ _; omega)).trans e5⟩
  clear hov hb5 hhl HCK HHI k0'
  have h3 : 3 ≤ q := by have := ok.h23; omega
  have hm := ok.hm
  have HSP := hid hs
  have HFN := hid hfn
  have HOKK := hid ok
  have HRL := hid hr
  have HFR := hid hfr
  have HL4 := hid hl4
  have HF4 := hid hf4
  have HFP := hid hfp
  clear hs hfn ok hr hfr hl4 hf4 hfp
  generalize w3.heap.size = B at *
  go_wp2_with fail
  go_loopw [38] (fun iv wr => ∃ k : Nat, k ≤ hl ∧ iv = .int .i64 k ∧ Hid (CkW w (B + 1) B s #[.slice ap ps.length cp, .slice ar rows.length cr, .slice an' nodes.length cn] wr (mput (L1 q (hd2 ps N 0 N) nodes k)) ∧ w5.grownBy wr (some B))) (fun iv _ => hl - (intOf iv).toNat)
  case atStart => exact ⟨0, by omega, rfl, HCK5.out, gb_refl _ _⟩
  case round =>
    obtain ⟨k, hk, rfl, hC⟩ := hrel
    by_cases hlt : k < hl
    · have hlt2 : (k : Int) < (hl : Int) := by omega
      have hks : IntKind.i64.wrap ((k : Int) + 1) = (k : Int) + 1 := by rw [IntKind.wrap_i64]; omega
      obtain ⟨gv, rfl, hcv1, hcv2⟩ := HCEL.out wr hC.out.2 k hlt
      have hkn : k < nodes.length := by rw [HSH.out.2.2.2, ← HHL.out]; exact hlt
      have hkn2 : (k : Int) < (nodes.length : Int) := by omega
      obtain ⟨bn, on, ak, ck, hae, hbn, hcn, hln⟩ := HNL.out.row k hkn
      subst hae
      have h4k := HSH.out.2.2.1 k hkn
      rw [h4k] at hcn
      have hhd := hd_at (ps := ps) hs1 (show k < (hd2 ps N 0 N).length by rw [← HHL.out]; exact hlt)
      have HMS : Hid (mput (L1 q (hd2 ps N 0 N) nodes (k + 1)) = upd (mput (L1 q (hd2 ps N 0 N) nodes k)) ((hd2 ps N 0 N).getD k (0, 0)).1 ((hd2 ps N 0 N).getD k (0, 0)).2 (elr q (rat nodes k))) := by unfold Hid; rw [L1_succ, mput_snoc]
      obtain ⟨ga, hga⟩ : ∃ ga, ga = ((hd2 ps N 0 N).getD k (0, 0)).1 := ⟨_, rfl⟩
      obtain ⟨gb, hgb⟩ : ∃ gb, gb = ((hd2 ps N 0 N).getD k (0, 0)).2 := ⟨_, rfl⟩
      rw [← hga, ← hgb] at HMS hhd
      rw [← hga] at hcv1
      rw [← hgb] at hcv2
      have HCW := hid (hC.out.1.bl ((Below.refl _ _).alloc (Nat.le_refl _) (.cells #[.int .i64 (ga : Int), .int .i64 (gb : Int)] 212)))
      have HG1 : Hid (w5.grownBy (wr.alloc (.cells #[.int .i64 (ga : Int), .int .i64 (gb : Int)] 212)) (some B)) := gb_trans hC.out.2 (World.grownBy_alloc _ _ _)
      have HLg := hid (duo_new wr 212 (.int .i64 (ga : Int)) (.int .i64 (gb : Int)))
      have hBr : B < wr.heap.size := hC.out.1.map.lt
      clear hC hga hgb 
      go_wp2_with fail
      generalize wr.alloc (.cells #[.int .i64 (ga : Int), .int .i64 (gb : Int)] 212) = W1 at *
      have HKe : Hid (∀ W, Below W1.heap.size W1 W → W.cell? ⟨B + 1, 1, none⟩ = some (.map (some B)) ∧ W.cell? ⟨wr.heap.size, 0, none⟩ = some (.int .i64 (ga : Int)) ∧ W.cell? ⟨wr.heap.size, 1, none⟩ = some (.int .i64 (gb : Int)) ∧ W.cell? ⟨w.heap.size, 2, none⟩ = some (.slice (some ⟨bn, on, none⟩) nodes.length cn) ∧ W.cell? ⟨bn, on + k, none⟩ = some (.slice ak 4 ck)) := fun W h => by
        have hc := HCW.out.bl h
        exact ⟨hc.wlk.c1, (h.cell (p := ⟨wr.heap.size, 0, none⟩) HLg.out.lt).trans (HLg.out.cell (i := 0) (by omega)), (h.cell (p := ⟨wr.heap.size, 1, none⟩) HLg.out.lt).trans (HLg.out.cell (i := 1) (by omega)), opn_c2 hc.opn, (hc.below.cell (p := ⟨bn, on + k, none⟩) hbn).trans hcn⟩
      have HFd : Hid (∀ W, Below W1.heap.size W1 W → Calls Tryz.prog 167 #[.pointer (some ⟨s, 0, none⟩)] W fun e w' => e = .returned (.pointer (some ⟨b, 0, none⟩)) ∧ w' = W) := fun W h => sfield_any q n d b s W (HSP.out.keep (HCW.out.bl h).below)
      have HDg : Hid (∀ W, Below W1.heap.size W1 W → Calls Tryz.prog 225 #[.pointer (some ⟨b, 0, none⟩), .slice ak 4 ck] W fun e w' => e = .returned (d4 (elr q (rat nodes k))) ∧ Below W1.heap.size W1 w' ∧ ∃ w2, (Instr.mapUpdate 263 (.map (some B)) (.agg #[.int .i64 (ga : Int), .int .i64 (gb : Int)]) (d4 (elr q (rat nodes k)))).run Tryz.prog w' = .ok () w2 ∧ (w2.cell? ⟨B + 1, 1, none⟩ = some (.map (some B)) ∧ w2.cell? ⟨wr.heap.size, 0, none⟩ = some (.int .i64 (ga : Int)) ∧ w2.cell? ⟨wr.heap.size, 1, none⟩ = some (.int .i64 (gb : Int)) ∧ w2.cell? ⟨w.heap.size, 2, none⟩ = some (.slice (some ⟨bn, on, none⟩) nodes.length cn) ∧ w2.cell? ⟨bn, on + k, none⟩ = some (.slice ak 4 ck)) ∧ Hid (CkW w (B + 1) B s #[.slice ap ps.length cp, .slice ar rows.length cr, .slice (some ⟨bn, on, none⟩) nodes.length cn] w2 (mput (L1 q (hd2 ps N 0 N) nodes (k + 1))) ∧ w5.grownBy w2 (some B))) := fun W h => by
        have hc := HCW.out.bl h
        refine (digestof_any q b ck ak (rat nodes k) W h3 hm (HSP.out.keep hc.below).p h4k (HFN.out k hkn).1 ((hln.row.below hc.below).mono hc.below.size)).mono ?_
        rintro e w' ⟨rfl, hb'⟩
        have h' := h.trans (hb'.mono h.size)
        have hc' := HCW.out.bl h'
        have hk' := HKe.out w' h'
        obtain ⟨w2, r1, r2, r3⟩ := hc'.map.update (a := ga) (b := gb) (by omega) (by omega) (elr q (rat nodes k))
        have hca := hc'.gb hB1 r3 r2
        have ed : an 4 (fun j => zat (rat nodes k) j % (q : Int)) = an 4 (zat (elr q (rat nodes k))) := an_congr (fun j hj => by unfold elr; rw [ls_at _ _ _ (by omega)])
        have hne : ∀ (p : Addr), p.block < w'.heap.size → p.block ≠ B → w2.cell? p = w'.cell? p := fun p h1 h2 => gb_cell r3 h1 h2
        have hs' := h'.size
        have hlg := HLg.out.lt
        refine ⟨by rw [ed, an4]; rfl, h', w2, ?_, ⟨hca.wlk.c1, (hne ⟨wr.heap.size, 0, none⟩ (by show wr.heap.size < _; omega) (by show wr.heap.size ≠ _; omega)).trans hk'.2.1, (hne ⟨wr.heap.size, 1, none⟩ (by show wr.heap.size < _; omega) (by show wr.heap.size ≠ _; omega)).trans hk'.2.2.1, opn_c2 hca.opn, (hca.below.cell (p := ⟨bn, on + k, none⟩) hbn).trans hcn⟩, ?_, gb_trans (gb_trans HG1.out (gb_below h')) r3⟩
        · rw [an4] at r1
          exact r1
        · rw [HMS.out]
          exact hca
      have hd1 : Below W1.heap.size W1 W1.drew := (Below.refl _ _).drew
      go_region_held3 (fun W => W.cell? ⟨B + 1, 1, none⟩ = some (.map (some B)) ∧ W.cell? ⟨wr.heap.size, 0, none⟩ = some (.int .i64 (ga : Int)) ∧ W.cell? ⟨wr.heap.size, 1, none⟩ = some (.int .i64 (gb : Int)) ∧ W.cell? ⟨w.heap.size, 2, none⟩ = some (.slice (some ⟨bn, on, none⟩) nodes.length cn) ∧ W.cell? ⟨bn, on + k, none⟩ = some (.slice ak 4 ck)) (first | assumption | exact HKe.out _ (by assumption))
        (first
          | (go_at_call 167; refine (HFd.out _ (by assumption)).mono ?_; rintro e w' ⟨rfl, rfl⟩)
          | (go_at_call 225; refine (HDg.out _ (by assumption)).mono ?_; unfold d4; rintro e w' ⟨rfl, hbd, w2, hrun, hS2, hE⟩))
      go_wp2_with fail
      go_roundw
      case rel => exact ⟨k + 1, by omega, by go_num, hE⟩
      case measure => simp [intOf]; omega
    · obtain rfl : k = hl := by omega
      have HC1 := hC
      have k0' := opn_c0 hC.out.1.opn
      clear hC
      go_wp2_with fail
      go_loopw [60] (fun iv wt => ∃ j : Nat, j ≤ ps.length ∧ iv = .int .i64 j ∧ Hid (CkW w (B + 1) B s #[.slice ap ps.length cp, .slice ar rows.length cr, .slice an' nodes.length cn] wt (mput (L1 q (hd2 ps N 0 N) nodes k ++ L2 q n ps rows j)))) (fun iv _ => ps.length - (intOf iv).toNat)
      case atStart => exact ⟨0, by omega, rfl, by show CkW _ _ _ _ _ _ (mput (_ ++ [])); rw [List.append_nil]; exact HC1.out.1⟩
      case round =>
        obtain ⟨j, hj, rfl, hD⟩ := hrel
        by_cases hlt3 : j < ps.length
        · have hlt4 : (j : Int) < (ps.length : Int) := by omega
          have hks : IntKind.i64.wrap ((j : Int) + 1) = (j : Int) + 1 := by rw [IntKind.wrap_i64]; omega
          have hjr : j < rows.length := by rw [HSH.out.1]; exact hlt3
          have hjr2 : (j : Int) < (rows.length : Int) := by omega
          obtain ⟨bp, op, hae, hbp, hcp⟩ := HL.out.row j hlt3
          subst hae
          obtain ⟨br, or', ak, ck, hae, hbr, hcr, hlr⟩ := HRL.out.row j hjr
          subst hae
          have hzz := HSH.out.2.1 j hlt3
          obtain ⟨x, hx⟩ : ∃ x : Nat, zat ps j = (x : Int) := ⟨(zat ps j).toNat, by omega⟩
          rw [hx] at hcp
          have hxl : x ≤ 1000000 := by omega
          have c1 := (hD.out.below.cell (p := ⟨bp, op + j, none⟩) hbp).trans hcp
          have c2 := (hD.out.below.cell (p := ⟨br, or' + j, none⟩) hbr).trans hcr
          have c3 := opn_c1 hD.out.opn
          have HMS : Hid (mput (L1 q (hd2 ps N 0 N) nodes k ++ L2 q n ps rows (j + 1)) = upd (mput (L1 q (hd2 ps N 0 N) nodes k ++ L2 q n ps rows j)) x (x + 1) (digl q n (0 :: rat rows j))) := by
            unfold Hid
            rw [L2_succ, ← List.append_assoc, mput_snoc, hx, Int.toNat_natCast]
          have HSR := hid (seerow_any q n d b s (B + 1) B ck x ak (rat rows j) _ wr HOKK.out (HSP.out.keep hD.out.below) hD.out.wlk hD.out.map hxl (by have := (HFR.out j hjr).2; omega) (HFR.out j hjr).1 ((hlr.below hD.out.below).mono hD.out.below.size))
          have HCW := hD
          clear hD hcp hcr hzz hx hlr
          go_wp2_with fail
          refine HSR.out.mono ?_
          rintro e w6 ⟨rfl, hmp6, hgb6⟩
          have HE : Hid (CkW w (B + 1) B s #[.slice (some ⟨bp, op, none⟩) ps.length cp, .slice (some ⟨br, or', none⟩) rows.length cr, .slice an' nodes.length cn] w6 (mput (L1 q (hd2 ps N 0 N) nodes k ++ L2 q n ps rows (j + 1)))) := by
            unfold Hid
            rw [HMS.out]
            exact HCW.out.gb hB1 hgb6 hmp6
          clear hmp6 hgb6
          go_wp2_with fail
          go_roundw
          case rel => exact ⟨j + 1, by omega, by go_num, HE⟩
          case measure => simp [intOf]; omega
        · have hje : j = ps.length := by omega
          have HC2 : Hid (CkW w (B + 1) B s #[.slice ap ps.length cp, .slice ar rows.length cr, .slice an' nodes.length cn] wr (M0 q n N ps rows nodes)) := by
            have := hD.out
            rw [hje, HHL.out] at this
            exact this
          have hlt5 : ¬ (j : Int) < (ps.length : Int) := by omega
          clear hD hlt3 hj hje
          have hDv := DV_dgst (q := q) (n := n) (M := M0 q n N ps rows nodes) h3 (fun a b dd h => M0_dgst h3 (shwn_ok HSH.out) a b dd h)
          have HRT : Hid (Calls Tryz.prog 171 #[.pointer (some ⟨B + 1, 0, none⟩), .agg #[.int .i64 0, .int .i64 (N : Int)]] wr.drew fun e w' => e = .returned (d4 (DV q n (M0 q n N ps rows nodes) 0 N)) ∧ Hid (∃ M', CkW w (B + 1) B s #[.slice ap ps.length cp, .slice ar rows.length cr, .slice an' nodes.length cn] w' M' ∧ Snd M' (DV q n (M0 q n N ps rows nodes)) ∧ ClM (M0 q n N ps rows nodes) M' ∧ M' 0 N ≠ none)) := by
            have hcd : CkW w (B + 1) B s #[.slice ap ps.length cp, .slice ar rows.length cr, .slice an' nodes.length cn] wr.drew (M0 q n N ps rows nodes) := HC2.out.bl (Below.refl _ _).drew
            have hroot := wroot_any q n d b s (B + 1) B (DV q n (M0 q n N ps rows nodes)) (M0 q n N ps rows nodes) HOKK.out hDv (shwn_rd (q := q) (n := n) hs1 HSH.out).rdy (Nat.zero_le _) (by omega)
            refine (hroot (M0 q n N ps rows nodes) wr.drew (HSP.out.keep hcd.below) hcd.wlk hcd.map (fun _ _ h => h) (fun a b dd h => (DV_eq (.found h)).symm)).mono ?_
            rintro e w' ⟨rfl, ⟨M', g1, g2, g3, g4, g5⟩, hg⟩
            exact ⟨by rw [an4]; rfl, M', hcd.gb hB1 hg g1, g2, g4, g5⟩
          have HFd : Hid (∀ W, Hid (∃ M', CkW w (B + 1) B s #[.slice ap ps.length cp, .slice ar rows.length cr, .slice an' nodes.length cn] W M' ∧ Snd M' (DV q n (M0 q n N ps rows nodes)) ∧ ClM (M0 q n N ps rows nodes) M' ∧ M' 0 N ≠ none) → Calls Tryz.prog 167 #[.pointer (some ⟨s, 0, none⟩)] W fun e w' => e = .returned (.pointer (some ⟨b, 0, none⟩)) ∧ w' = W) := fun W h => by
            obtain ⟨M', h1, _⟩ := h.out
            exact sfield_any q n d b s W (HSP.out.keep h1.below)
          have HDg : Hid (∀ W, Hid (∃ M', CkW w (B + 1) B s #[.slice ap ps.length cp, .slice ar rows.length cr, .slice an' nodes.length cn] W M' ∧ Snd M' (DV q n (M0 q n N ps rows nodes)) ∧ ClM (M0 q n N ps rows nodes) M' ∧ M' 0 N ≠ none) → Calls Tryz.prog 225 #[.pointer (some ⟨b, 0, none⟩), .slice a4 4 c4] W fun e w' => e = .returned (d4 (elr q root)) ∧ Hid (∃ M', CkW w (B + 1) B s #[.slice ap ps.length cp, .slice ar rows.length cr, .slice an' nodes.length cn] w' M' ∧ Snd M' (DV q n (M0 q n N ps rows nodes)) ∧ ClM (M0 q n N ps rows nodes) M' ∧ M' 0 N ≠ none)) := fun W h => by
            obtain ⟨M', h1, h2⟩ := h.out
            refine (digestof_any q b c4 a4 root W h3 hm (HSP.out.keep h1.below).p h4 HF4.out ((HL4.out.row.below h1.below).mono h1.below.size)).mono ?_
            rintro e w' ⟨rfl, hb'⟩
            have ed : an 4 (fun j => zat root j % (q : Int)) = an 4 (zat (elr q root)) := an_congr (fun j hj => by unfold elr; rw [ls_at _ _ _ (by omega)])
            exact ⟨by rw [ed, an4]; rfl, M', h1.bl hb', h2⟩
          have hqr := fun W => eqd_run (hDv 0 N).1 (show (elr q root).length = 4 by unfold elr; rw [ls_len]; exact h4) W
          go_wp2_with fail
          go_region_held3 (fun _ => True) (trivial)
            (first
              | (go_at_call 171; refine HRT.out.mono ?_; unfold d4; rintro e w' ⟨rfl, hP6⟩)
              | (go_at_call 167; refine (HFd.out _ (by assumption)).mono ?_; rintro e w' ⟨rfl, rfl⟩)
              | (go_at_call 225; refine (HDg.out _ (by assumption)).mono ?_; unfold d4; rintro e w' ⟨rfl, hP7⟩))
          go_wp2_with fail
          go_ret2
          exact ⟨B + 1, B, rfl, CkW.done hB1 hP7.out⟩

end Go.Proofs.YtfppkjpgihnibaaGreatDoor

namespace Go.Proofs.YtfppkjpgihnibaaGreatDoor
open Go.RowKit

theorem okb_iff {q n : Nat} {root : List Int} {N : Int} {ps : List Int} {rows nodes : List (List Int)} (h : ¬ okb N root ps rows nodes) : chkf q n root N ps rows nodes = false := by
  by_cases hN : 1 ≤ N ∧ N ≤ 65536 ∧ root.length = 4
  · obtain ⟨M, rfl⟩ := Int.eq_ofNat_of_zero_le (show 0 ≤ N by omega)
    exact chk_not (by omega) (fun hs => h ⟨hN.1, hN.2.1, hN.2.2, by rw [Int.toNat_natCast]; exact hs⟩)
  · exact chkf_no (fun hc => hN ⟨hc.1, hc.2.1, hc.2.2.2.1⟩)

set_option maxRecDepth 100000 in
set_option maxHeartbeats 1000000 in
theorem check_any (q n d b s c4 cp cr cn : Nat) (a4 ap ar an' : Option Addr) (root : List Int) (N : Int) (ps : List Int) (rows nodes : List (List Int)) (W : World) (ok : SpgOk q n d) (hs : SpgAt W s b q n d) (hpl : ps.length ≤ 281474976710656) (hnl : nodes.length ≤ 281474976710656) (hN1 : -9223372036854775808 ≤ N) (hN2 : N ≤ 9223372036854775807)
    (hf4 : Fits root) (hfp : Fits ps) (hfr : FitsR rows) (hfn : FitsR nodes) (hl4 : Lst W.heap.size W a4 c4 root) (hp : Lst W.heap.size W ap cp ps) (hr : LstR W.heap.size W ar cr rows) (hn : LstR W.heap.size W an' cn nodes) :
    Calls Tryz.prog 110 #[.pointer (some ⟨s, 0, none⟩), .slice a4 root.length c4, .int .i64 N, .agg #[.slice ap ps.length cp, .slice ar rows.length cr, .slice an' nodes.length cn]] W fun e w' => e = .returned (.bool (chkf q n root N ps rows nodes)) ∧ Below W.heap.size W w' := by
  have HB0 : Hid (Below W.heap.size W (W.alloc (.cells #[.slice ap ps.length cp, .slice ar rows.length cr, .slice an' nodes.length cn] 107))) := (Below.refl _ _).alloc (Nat.le_refl _) _
  have HO := hid (tri_arr (tri_new W 107 (.slice ap ps.length cp) (.slice ar rows.length cr) (.slice an' nodes.length cn)))
  have HC : Hid (∀ w, Below W.heap.size W w → Calls Tryz.prog 184 #[.pointer (some ⟨s, 0, none⟩), .slice a4 root.length c4, .int .i64 N, .agg #[.slice ap ps.length cp, .slice ar rows.length cr, .slice an' nodes.length cn]] w fun e w' => ∃ v, e = .returned (.tuple #[v, .bool (chkf q n root N ps rows nodes)]) ∧ Below W.heap.size W w') := fun w hb => by
    by_cases hok : okb N root ps rows nodes
    · obtain ⟨h1, h2, h4, hsh⟩ := hok
      obtain ⟨M, rfl⟩ := Int.eq_ofNat_of_zero_le (show 0 ≤ N by omega)
      rw [Int.toNat_natCast] at hsh
      refine (checked_yes q n d b s c4 cp cr cn a4 ap ar an' root M ps rows nodes w (by omega) (by omega) h4 hsh ok (hs.keep hb) hpl hnl hf4 hfp hfr hfn ((hl4.below hb).mono hb.size) ((hp.below hb).mono hb.size) ((hr.below hb).mono hb.size) ((hn.below hb).mono hb.size)).mono ?_
      rintro e w' ⟨g, B, rfl, hd⟩
      rw [chk_says (by have := ok.h23; omega) (by omega) (by omega) h4 hsh]
      exact ⟨_, rfl, hb.trans (hd.2.2.1.mono hb.size)⟩
    · refine (checked_no s c4 cp cr cn a4 ap ar an' root N ps rows nodes w hN1 hN2 hpl hnl ((hp.below hb).mono hb.size) ((hn.below hb).mono hb.size) hok).mono ?_
      rintro e w' ⟨rfl, hd⟩
      rw [okb_iff hok]
      exact ⟨_, rfl, hb.trans (hd.mono hb.size)⟩
  clear hs hf4 hfp hfr hfn hl4 hp hr hn ok
  generalize chkf q n root N ps rows nodes = t at *
  go_enter Tryz.func110, Tryz.ntmps110
  go_wp2_with fail
  generalize W.alloc (.cells #[.slice ap ps.length cp, .slice ar rows.length cr, .slice an' nodes.length cn] 107) = W0 at *
  have k0 := opn_c0 HO.out
  have k1 := opn_c1 HO.out
  have k2 := opn_c2 HO.out
  go_wp2_with fail
  refine (HC.out W0 HB0.out).mono ?_
  rintro e w1 ⟨v, rfl, hb1⟩
  have HB1 := hid hb1
  clear hb1
  go_wp2_with fail
  go_ret
  exact ⟨rfl, HB1.out⟩

end Go.Proofs.YtfppkjpgihnibaaGreatDoor
