/- slices.Equal; package tree: rowList. -/
import Derived.Test.YtionbilheeheaafTrgV
namespace Go.Proofs.Ytionbilheeheaaf
open Go.RowKit

theorem eq_of_zat {x y : List Int} (hl : x.length = y.length) (h : ∀ j, j < x.length → zat x j = zat y j) : x = y := by
  apply List.ext_getElem hl
  intro i h1 h2
  have := h i h1
  simpa [zat, h1, h2] using this

set_option maxRecDepth 100000 in
set_option maxHeartbeats 2000000 in
theorem equal_any (c1 c2 : Nat) (a1 a2 : Option Addr) (x y : List Int) (w : World) (hx : x.length ≤ 281474976710656) (h1 : RowB w.heap.size w a1 x) (h2 : RowB w.heap.size w a2 y) :
    Calls Try.prog 35 #[.slice a1 x.length c1, .slice a2 y.length c2] w fun e w' => e = .returned (.bool (decide (x = y))) ∧ Below w.heap.size w w' := by
  have H1 := hid h1
  have H2 := hid h2
  clear h1 h2
  by_cases hl : x.length = y.length
  · obtain ⟨n, hn⟩ : ∃ n, n = x.length := ⟨_, rfl⟩
    have HN := hid hn
    have HLY : Hid (y.length = n) := by rw [hn]; exact hl.symm
    rw [← hl, ← hn]
    rw [← hn] at hx
    clear hn hl
    go_enter Try.func35, Try.ntmps35
    go_wp2_with fail
    go_loopw [13] (fun iv wr => ∃ k : Nat, k ≤ n ∧ iv = .int .i64 k ∧ Hid ((∀ j, j < k → zat x j = zat y j) ∧ Below w.heap.size w wr)) (fun iv _ => n - (intOf iv).toNat)
    case atStart => exact ⟨0, by omega, rfl, fun j hj => by omega, Below.refl _ _⟩
    case round =>
      obtain ⟨k, hk, rfl, hC⟩ := hrel
      by_cases hlt : k < n
      · have hlt2 : (k : Int) < (n : Int) := by omega
        have hks : IntKind.i64.wrap ((k : Int) + 1) = (k : Int) + 1 := by rw [IntKind.wrap_i64]; omega
        obtain ⟨b1, o1, rfl, hb1, hc1⟩ := H1.out k (by rw [← HN.out]; exact hlt)
        obtain ⟨b2, o2, rfl, hb2, hc2⟩ := H2.out k (by rw [HLY.out]; exact hlt)
        have k1 := (hC.out.2.cell (p := ⟨b1, o1 + k, none⟩) hb1).trans hc1
        have k2 := (hC.out.2.cell (p := ⟨b2, o2 + k, none⟩) hb2).trans hc2
        have HB := hid hC.out.2
        have HP := hid hC.out.1
        clear hC hc1 hc2 hb1 hb2
        by_cases he : zat x k = zat y k
        · have HE : Hid ((∀ j, j < k + 1 → zat x j = zat y j) ∧ Below w.heap.size w wr.drew) := ⟨fun j hj => by
            rcases Nat.lt_or_ge j k with h' | h'
            · exact HP.out j h'
            · rw [show j = k by omega]; exact he, HB.out.drew⟩
          rw [he] at k1
          generalize zat y k = v at *
          clear he
          go_wp2_with fail
          go_region_held3 (fun W => W.cell? ⟨b1, o1 + k, none⟩ = some (.int .i64 v) ∧ W.cell? ⟨b2, o2 + k, none⟩ = some (.int .i64 v)) (go_keep) (fail)
          go_wp2_with fail
          go_roundw
          case rel => exact ⟨k + 1, by omega, by go_num, HE⟩
          case measure => simp [intOf]; omega
        · have HNE : Hid (¬ x = y) := fun e => he (by rw [e])
          have hne : (zat x k != zat y k) = true := by simpa using he
          generalize zat x k = u at *
          generalize zat y k = v at *
          go_wp2_with fail
          go_region_held3 (fun W => W.cell? ⟨b1, o1 + k, none⟩ = some (.int .i64 u) ∧ W.cell? ⟨b2, o2 + k, none⟩ = some (.int .i64 v)) (go_keep) (fail)
          go_wp2_with fail
          go_ret
          exact ⟨by rw [decide_eq_false HNE.out]; rfl, HB.out.drew⟩
      · obtain rfl : k = n := by omega
        have HE := hC
        clear hC
        go_wp2_with fail
        go_ret
        refine ⟨?_, HE.out.2⟩
        rw [decide_eq_true (eq_of_zat (by rw [← HN.out]; exact HLY.out.symm) (fun j hj => HE.out.1 j (by rw [HN.out]; exact hj)))]
        rfl
  · have hne : ((x.length : Int) != (y.length : Int)) = true := by simp; omega
    have HNE : Hid (¬ x = y) := fun e => hl (by rw [e])
    clear hl
    go_enter Try.func35, Try.ntmps35
    go_wp2_with fail
    go_ret
    exact ⟨by rw [decide_eq_false HNE.out]; rfl, Below.refl _ _⟩

set_option maxRecDepth 100000 in
set_option maxHeartbeats 2000000 in
theorem rowlist_any (q b cap : Nat) (a : Option Addr) (row : List Int) (w : World) (h3 : 3 ≤ q) (hm : q ≤ 2147483647) (hp : w.cell? ⟨b, 0, none⟩ = some (.int .i64 q)) (hlen : row.length ≤ 17592186044000) (hfit : Fits row) (hl : Lst w.heap.size w a cap row) :
    Calls Try.prog 34 #[.pointer (some ⟨b, 0, none⟩), .slice a row.length cap] w fun e w' => ∃ v, e = .returned v ∧ (∃ a' c', v = .slice a' (elr q (0 :: row)).length c' ∧ Lst w'.heap.size w' a' c' (elr q (0 :: row))) ∧ Below w.heap.size w w' := by
  have hbl : b < w.heap.size := heap_lt hp
  have hB1 : Below w.heap.size w (w.drew.alloc (.cells #[.slice a row.length cap] 23)) := (Below.refl _ _).drew.alloc (Nat.le_refl _) _
  have e0 : (0 :: row) = 0 :: [row].flatten := by simp
  obtain ⟨L, hL⟩ : ∃ L, L = 0 :: row := ⟨_, rfl⟩
  have hLl : L.length = row.length + 1 := by rw [hL]; rfl
  have hLf : Fits L := by rw [hL]; exact fits_cons (by omega) hfit
  have HJ : Hid (Calls Try.prog 59 #[.int .i64 0, .slice (some ⟨w.heap.size, 0, none⟩) 1 1] (w.alloc (.cells #[.slice a row.length cap] 23)) fun e w' => ∃ v, e = .returned v ∧ Hid (∃ bs, w'.ownsRow bs 3 1 v L.length (L.map (Value.int .i64))) ∧ Below w.heap.size w w') := by
    have hlr := lstR_one hl
    have hsz : (w.alloc (.cells #[.slice a row.length cap] 23)).heap.size = w.heap.size + 1 := by simp
    have hlr2 : LstR (w.heap.size + 1) (w.alloc (.cells #[.slice a row.length cap] 23)) (some ⟨w.heap.size, 0, none⟩) 1 [row] := LstR.below (A := w.drew.alloc (.cells #[.slice a row.length cap] 23)) ⟨rfl, rfl, rfl, Nat.le_refl _, fun _ _ => rfl⟩ hlr
    refine (joined_any 0 1 (some ⟨w.heap.size, 0, none⟩) [row] (w.alloc (.cells #[.slice a row.length cap] 23)) (by simp; omega) (by simp) (by rw [hsz]; exact hlr2)).mono ?_
    rintro e w' ⟨v, rfl, ho, hb'⟩
    rw [← e0, ← hL] at ho
    exact ⟨v, rfl, ⟨_, ho⟩, (show Below w.heap.size w (w.alloc (.cells #[.slice a row.length cap] 23)) from (Below.refl _ _).alloc (Nat.le_refl _) _).trans (hb'.mono (by rw [hsz]; omega))⟩
  have HE : Hid (∀ (W : World) (v : Value), Hid (∃ bs, W.ownsRow bs 3 1 v L.length (L.map (Value.int .i64))) → Below w.heap.size w W → Calls Try.prog 25 #[.pointer (some ⟨b, 0, none⟩), v] W fun e w' => ∃ v', e = .returned v' ∧ Hid ((∃ a' c', v' = .slice a' (elr q L).length c' ∧ Lst w'.heap.size w' a' c' (elr q L)) ∧ Below w.heap.size w w')) := fun W v ho hb => by
    obtain ⟨bs, ho⟩ := ho.out
    obtain ⟨a2, c2, rfl, hl2⟩ := lst_of_owns ho
    refine (elements_any q b c2 a2 L W h3 hm ((hb.cell (p := ⟨b, 0, none⟩) hbl).trans hp) (by omega) hLf hl2.row).mono ?_
    rintro e w' ⟨rfl, hA, hb'⟩
    have hel : (elr q L).length = L.length := by unfold elr; rw [ls_len]
    refine ⟨_, rfl, ⟨_, L.length, by rw [hel], ⟨fun k hk => ⟨_, 0, rfl, hA.lt, ?_⟩, by omega, fun e => by cases e⟩⟩, hb.trans (hb'.mono hb.size)⟩
    rw [hel] at hk
    rw [Nat.zero_add, hA.cell hk]
    unfold elr
    rw [ls_at _ _ _ hk]
  rw [← hL]
  clear hl hfit hL e0 hLf hLl hp hB1
  go_enter Try.func34, Try.ntmps34
  go_wp2_with fail
  refine HJ.out.mono ?_
  rintro e w1 ⟨v, rfl, ho, hb1⟩
  have HE1 := hid (HE.out w1 v ho hb1)
  clear HE HJ ho hb1
  go_wp2_with fail
  refine HE1.out.mono ?_
  rintro e w2 ⟨v', rfl, hF⟩
  go_wp2_with fail
  go_ret
  exact ⟨_, rfl, hF.out⟩

end Go.Proofs.Ytionbilheeheaaf
