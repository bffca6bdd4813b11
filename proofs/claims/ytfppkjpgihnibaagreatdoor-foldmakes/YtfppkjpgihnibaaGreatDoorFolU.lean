/- attestref5.pairs, in blocks of their own kinds; trees; what attestref5.Make makes, plain. -/
import Derived.Test.YtfppkjpgihnibaaGreatDoorFolG
namespace Go.Proofs.YtfppkjpgihnibaaGreatDoor
open Go.RowKit

theorem sli_two (w : World) (x y : Int) : SlI (w.alloc (.cells #[.int .i64 x, .int .i64 y] 3)) [x, y] (.slice (some ⟨w.heap.size, 0, none⟩) 2 2) := by
  obtain ⟨a, c, h1, h2, _⟩ := slr_two w x y
  injection h1 with e1 _ e3
  subst e1 e3
  exact ⟨_, _, rfl, h2, fun _ => ⟨w.heap.size, 0, _, _, rfl, heap_alloc_new w _⟩⟩

set_option maxRecDepth 100000 in
set_option maxHeartbeats 1000000 in
theorem rpairs5_I (p cap : Nat) (a : Option Addr) (word : List Int) (w : World) (h3 : 3 ≤ p) (hm : p ≤ 2147483647) (hl : word.length ≤ 131072) (hf : Fits word) (hrow : RowB w.heap.size w a word) :
    Calls Tryz.prog 43 #[.int .i64 p, .slice a word.length cap] w fun e w' => ∃ v, e = .returned v ∧ OwnI w.heap.size w' v (prs5 p word) ∧ Below w.heap.size w w' := by
  have HR := hid hrow
  have HF := hid hf
  obtain ⟨N, hN⟩ : ∃ N, N = word.length := ⟨_, rfl⟩
  obtain ⟨h, hh⟩ : ∃ h, h = N / 2 := ⟨_, rfl⟩
  have q0 : (N : Int) / 2 = (h : Int) := by omega
  have q1 : (N : Int).tdiv 2 = (h : Int) := by rw [Int.tdiv_eq_ediv_of_nonneg (by omega)]; omega
  have q2 : IntKind.i64.wrap (h : Int) = (h : Int) := by rw [IntKind.wrap_i64]; omega
  have hhN : h + h ≤ N := by omega
  obtain ⟨R, hR⟩ : ∃ R, R = prs5 p word := ⟨_, rfl⟩
  have HRL : Hid (R.length = h) := by unfold Hid; rw [hR, prs5_len, hh, hN]
  have HRR : Hid (∀ k, k < h → rat R k = [zat word k % (p : Int), zat word (k + h) % (p : Int)]) := fun k hk => by rw [hR, prs5_rat (by omega), hh, hN]
  have HR0 := hid hR
  have HNN := hid hN
  rw [← hN] at hl ⊢
  clear hrow hf hN hh hR
  go_enter Tryz.func43, Tryz.ntmps43
  go_wp2_with fail
  go_loopw [5, 7] (fun v iv wr => ∃ k : Nat, k ≤ h ∧ iv = .int .i64 k ∧ Hid (OwnI w.heap.size wr v (R.take k)) ∧ Hid (Below w.heap.size w wr)) (fun _ iv _ => h - (intOf iv).toNat)
  case atStart => exact ⟨0, by omega, rfl, by rw [List.take_zero]; exact OwnI.nil _ _, Below.refl _ _⟩
  case round =>
    obtain ⟨k, hk, rfl, hown, hbel⟩ := hrel
    by_cases hlt : k < h
    · have hlt2 : (k : Int) < (h : Int) := by omega
      have hlt3 : (k : Int) < (N : Int) := by omega
      have hks : IntKind.i64.wrap ((k : Int) + 1) = (k : Int) + 1 := by rw [IntKind.wrap_i64]; omega
      obtain ⟨kh, hkh⟩ : ∃ kh, kh = k + h := ⟨_, rfl⟩
      have k1 : IntKind.i64.wrap ((k : Int) + (h : Int)) = (kh : Int) := by rw [IntKind.wrap_i64]; omega
      have k0 : (k : Int) + (h : Int) = (kh : Int) := by omega
      have k3 : IntKind.i64.wrap (kh : Int) = (kh : Int) := by rw [IntKind.wrap_i64]; omega
      have k2 : (kh : Int) < (N : Int) := by omega
      obtain ⟨b, o, rfl, hb, hc⟩ := HR.out k (by rw [← HNN.out]; omega)
      obtain ⟨_, _, e1, _, hd⟩ := HR.out kh (by rw [← HNN.out]; omega)
      cases e1
      have hc2 := (hbel.out.cell (p := ⟨b, o + k, none⟩) hb).trans hc
      have hd2 := (hbel.out.cell (p := ⟨b, o + kh, none⟩) hb).trans hd
      obtain ⟨f1, f2⟩ := HF.out.all k
      obtain ⟨g1, g2⟩ := HF.out.all kh
      have HTK : Hid (R.take (k + 1) = R.take k ++ [[zat word k % (p : Int), zat word kh % (p : Int)]]) := by unfold Hid; rw [take_succ_rat (by rw [HRL.out]; exact hlt), HRR.out k hlt, hkh]
      have HKL : Hid ((R.take k).length = k) := by unfold Hid; rw [List.length_take, HRL.out]; omega
      have HO1 := hid (rof_any p (zat word k) wr h3 hm f1 f2)
      have HO2 := hid (rof_any p (zat word kh) wr h3 hm g1 g2)
      generalize zat word k % (p : Int) = x at *
      generalize zat word kh % (p : Int) = y at *
      generalize zat word k = x0 at *
      generalize zat word kh = y0 at *
      have HBA : Hid (Below wr.heap.size wr (wr.alloc (.cells #[.int .i64 x, .int .i64 y] 3))) := (Below.refl _ _).alloc (Nat.le_refl _) _
      have HS1 := hid (sli_two wr x y)
      have HOA := hid (hown.out.ki (KI.below HBA.out))
      have HBB : Hid (Below w.heap.size w (wr.alloc (.cells #[.int .i64 x, .int .i64 y] 3))) := hbel.out.trans (HBA.out.mono hbel.out.size)
      clear hc hd hown hbel hkh f1 f2 g1 g2 HBA
      go_wp2_with fail
      refine HO1.out.mono ?_
      rintro e w1 ⟨rfl, rfl⟩
      go_wp2_with fail
      refine HO2.out.mono ?_
      rintro e w2 ⟨rfl, rfl⟩
      go_wp2_with (at_builtin; refine wpList_rowI (w2.alloc (.cells #[.int .i64 x, .int .i64 y] 3)) w.heap.size rfl _ _ rfl _ _ (R.take k) [x, y] HOA.out HS1.out rfl (by rw [show (w2.alloc (.cells #[.int .i64 x, .int .i64 y] 3)).heap.size = w2.heap.size + 1 from by simp]; rfl) (by rw [HKL.out]; omega) HBB.out.size ?_)
      intro v3 w3 ho3 hb3
      rw [← HTK.out] at ho3
      have HO3 := hid ho3
      have HB3 : Hid (Below w.heap.size w w3) := HBB.out.trans hb3
      clear ho3 hb3
      go_wp2_with fail
      go_roundw
      case rel => exact ⟨k + 1, by omega, by go_num, HO3, HB3⟩
      case measure => simp [intOf]; omega
    · obtain rfl : k = h := by omega
      have hlt2 : ¬ (k : Int) < (k : Int) := by omega
      have HTE : Hid (R.take k = prs5 p word) := by unfold Hid; rw [← HRL.out, List.take_length, HR0.out]
      have HO := hown
      rw [HTE.out] at HO
      clear hown HTE
      go_wp2_with fail
      go_ret
      exact ⟨_, rfl, HO.out, hbel.out⟩

/-! ## trees -/
theorem Tryz.infoRs : (Tryz.prog.info? 33).map (fun i => (i.zero, i.size, i.bytes)) = some (some (.slice none 0 0), 1, 24) := by kernel_rfl
/-- blocks of numbers, lists, Openings and rows stay -/
def KT (w w' : World) : Prop := KO w w' ∧ ∀ (b : Nat) (cs : Array Value) (f : Nat × Nat), w.heap[b]? = some (.cells cs 33 f) → w'.heap[b]? = w.heap[b]?
theorem KT.below {w w' : World} (e : Below w.heap.size w w') : KT w w' := ⟨KO.below e, fun b _ _ h => e.block b (Array.getElem?_eq_some_iff.1 h).1⟩
theorem KT.oth {w w' : World} {O : Nat} {c : Array Value} {t : TypeId} {f : Nat × Nat} (hO : w.heap[O]? = some (.cells c t f)) (h1 : t ≠ 3) (h2 : t ≠ 22) (h3 : t ≠ 107) (h4 : t ≠ 33) (hs : w.heap.size ≤ w'.heap.size) (e : ∀ b, b < w.heap.size → b ≠ O → w'.heap[b]? = w.heap[b]?) : KT w w' :=
  ⟨KO.oth hO h1 h2 h3 hs e, fun b cs f' h => e b (Array.getElem?_eq_some_iff.1 h).1 (by
    rintro rfl
    rw [hO] at h
    injection h with h
    injection h with _ h5 _
    exact h4 h5)⟩
def tat (ts : List (List (List Int))) (j : Nat) : List (List Int) := ts.getD j []
def OwnT (base : Nat) (w : World) (v : Value) (ts : List (List (List Int))) : Prop := ∃ vals : List Value, w.ownsRow base 33 1 v ts.length vals ∧ ∀ j, j < ts.length → ∃ u, vals[j]? = some u ∧ OwnI 0 w u (tat ts j)
theorem OwnT.nil (base : Nat) (w : World) : OwnT base w (.slice none 0 0) [] := ⟨[], World.ownsRow_nil _ _ _ _, fun j hj => by simp at hj⟩
theorem OwnT.kt {base : Nat} {w w' : World} {v : Value} {ts : List (List (List Int))} (h : OwnT base w v ts) (k : KT w w') : OwnT base w' v ts := by
  obtain ⟨vals, h1, h2⟩ := h
  refine ⟨vals, ⟨h1.1, ?_⟩, fun j hj => ?_⟩
  · rcases h1.2 with hn | ⟨g, cap, cur, rfl, hb, hg, rest⟩
    · exact .inl hn
    · exact .inr ⟨g, cap, cur, rfl, hb, (k.2 g _ _ hg).trans hg, rest⟩
  · obtain ⟨u, h3, h4⟩ := h2 j hj
    exact ⟨u, h3, h4.ki k.1.1⟩
theorem OwnT.at {base : Nat} {w : World} {v : Value} {ts : List (List (List Int))} (h : OwnT base w v ts) {j : Nat} (hj : j < ts.length) : ∃ g cap a c, v = .slice (some ⟨g, 0, none⟩) ts.length cap ∧ w.cell? ⟨g, j, none⟩ = some (.slice a (tat ts j).length c) ∧ LRT w a c (tat ts j) := by
  obtain ⟨vals, h1, h2⟩ := h
  rcases h1.2 with ⟨rfl, h0⟩ | ⟨g, cap, cur, rfl, hb, hg, hn, hm, hs, ht⟩
  · omega
  · obtain ⟨u, h3, h4⟩ := h2 j hj
    obtain ⟨a, c, rfl, hl⟩ := h4.lrt
    exact ⟨g, cap, a, c, rfl, by rw [h1.cellAt j (by omega), h3], hl⟩
theorem OwnT.form {base : Nat} {w : World} {v : Value} {ts : List (List (List Int))} (h : OwnT base w v ts) : ∃ a c, v = .slice a ts.length c := by
  obtain ⟨vals, h1, h2⟩ := h
  rcases h1.2 with ⟨rfl, h0⟩ | ⟨g, cap, cur, rfl, _⟩
  · exact ⟨none, 0, by rw [h0]⟩
  · exact ⟨_, _, rfl⟩
/-- append(trees, rows) -/
theorem wpList_tree1 {ops : Array Oper} {rest : List Oper} {o : Oper} {act : Act} {Q : Exit → Act → World → Prop} (W : World) (base : Nat) (hgd : o.guard = none) (s x : Operand)
    (ho : o.op = .call { callee := .builtin .append, args := #[s, x], argTypes := #[97, 97] }) (v u : Value) (ts : List (List (List Int))) (t : List (List Int))
    (hown : OwnT base W v ts) (hu : OwnI 0 W u t) (hs : act.eval s = v) (hx : act.eval x = .slice (some ⟨W.heap.size, 0, none⟩) 1 1) (hlen : ts.length + 1 ≤ 5864062014805) (hbase : base ≤ W.heap.size)
    (h : ∀ v' w2, OwnT base w2 v' (ts ++ [t]) → Below base W w2 → W.heap.size ≤ w2.heap.size → (∀ (b : Nat) (c : Array Value) (t : TypeId) (f : Nat × Nat), W.heap[b]? = some (.cells c t f) → t ≠ 33 → w2.heap[b]? = W.heap[b]?) → wpList Tryz.prog ops Q rest (act.put o.dst v') w2) :
    wpList Tryz.prog ops Q (o :: rest) act (W.alloc (.cells #[u] 33)) := by
  have hbw : Below W.heap.size W (W.alloc (.cells #[u] 33)) := (Below.refl _ _).alloc (Nat.le_refl _) _
  obtain ⟨i0, hi, hz0, hz1, hz2⟩ := info_parts Tryz.infoRs
  have hu1 := hu.ki (KI.below hbw)
  obtain ⟨vals, h1, h2⟩ := hown.kt (KT.below hbw)
  have hvl : vals.length = ts.length := by have := h1.1; omega
  refine wpList_append_own _ hgd s x 97 ho base 33 i0 (.slice none 0 0) 1 24 Tryz.underlying97 hi hz0 hz1 hz2 rfl (by decide) _ _ _ hs h1 ⟨W.heap.size, 0, none⟩ 1 1 [u] hx rfl ?_ ?_ (by unfold maxLen; omega) (by omega) (by simp; omega) ?_
  · intro j t hj
    match j, hj with
    | 0, hj => simp at hj; subst hj; simp [Addr.add]
  · intro t' ht
    obtain rfl : t' = u := by simpa using ht
    obtain ⟨a, c, rfl, _⟩ := hu.lst
    rfl
  · intro v' w2 hown2 hgrow _
    have hns : ∀ (b : Nat) (c : Array Value) (t : TypeId) (f : Nat × Nat), (W.alloc (.cells #[u] 33)).heap[b]? = some (.cells c t f) → t ≠ 33 → w2.heap[b]? = (W.alloc (.cells #[u] 33)).heap[b]? := fun b c t f hb ht => by
      refine hgrow.block b (Array.getElem?_eq_some_iff.1 hb).1 (fun e => ?_)
      rcases h1.2 with ⟨rfl, _⟩ | ⟨g, cap, cur, rfl, _, hg, _⟩
      · cases e
      · simp [Value.ownBlock] at e
        subst e
        rw [hb] at hg
        injection hg with hg
        injection hg with _ h5 _
        exact ht h5
    have hKI : KI (W.alloc (.cells #[u] 33)) w2 := ⟨hgrow.size, fun b cs t f hb ht => hns b cs t f hb (by rcases ht with rfl | rfl <;> decide)⟩
    have hsz : W.heap.size ≤ w2.heap.size := by have := hgrow.size; simp at this; omega
    refine h v' w2 ⟨vals ++ [u], by rw [List.length_append]; exact hown2, fun j hj => ?_⟩ ((hbw.mono hbase).trans ((Below.refl base _).grown hgrow (by simp; omega) (fun k hk => (h1.lt k hk).1))) hsz (fun b c t f hb ht => ?_)
    · rw [List.length_append] at hj
      by_cases hjr : j < ts.length
      · have e0 : tat (ts ++ [t]) j = tat ts j := by simp [tat, List.getElem?_append_left hjr]
        rw [e0, List.getElem?_append_left (by omega)]
        obtain ⟨u', e1, e2⟩ := h2 j hjr
        exact ⟨u', e1, e2.ki hKI⟩
      · obtain rfl : j = ts.length := by simp at hj; omega
        have e0 : tat (ts ++ [t]) ts.length = t := by simp [tat]
        rw [e0, List.getElem?_append_right (by omega), hvl, Nat.sub_self]
        exact ⟨u, rfl, hu1.ki hKI⟩
    · have e := hbw.block b (Array.getElem?_eq_some_iff.1 hb).1
      exact (hns b c t f (e.trans hb) ht).trans e

end Go.Proofs.YtfppkjpgihnibaaGreatDoor
