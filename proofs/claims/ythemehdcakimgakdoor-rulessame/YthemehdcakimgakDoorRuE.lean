/- attestref8: Each. -/
import Derived.Test.YthemehdcakimgakDoorRuD
namespace Go.Proofs.YthemehdcakimgakDoor
open Go.RowKit

theorem neq_cel (x y : Int × Int) (w : World) : (binOp BinOp.neq 39 (.agg #[.int .i64 x.1, .int .i64 x.2]) (.agg #[.int .i64 y.1, .int .i64 y.2])).run Tryd.prog w = .ok (.bool (!decide (x = y))) w := by
  obtain ⟨x0, x1⟩ := x
  obtain ⟨y0, y1⟩ := y
  by_cases h0 : x0 = y0
  · by_cases h1 : x1 = y1
    · simp [go_sem, h0, h1]
    · simp [go_sem, h0, h1]
  · simp [go_sem, h0]
/-- the same pairs, each as often -/
def eqc (l m : List (Int × Int)) : Bool := decide (l = m)

set_option maxRecDepth 100000 in
set_option maxHeartbeats 4000000 in
theorem reach8_any (c d : Nat) (a b : Option Addr) (L M : List (Int × Int)) (w : World) (hn : L.length ≤ 8796093022208) (hL : LstC w.heap.size w a c L) (hm : M.length ≤ 8796093022208) (hM : LstC w.heap.size w b d M) :
    Calls Tryd.prog 14 #[.slice a L.length c, .slice b M.length d] w fun e w' => e = .returned (.bool (decide (L.Perm M))) ∧ Below w.heap.size w w' := by
  have H1 := hid (rsorted_any c a L w hn hL)
  have H2 : Hid (∀ W, Below w.heap.size w W → Calls Tryd.prog 33 #[.slice b M.length d] W (SrtR M W)) := fun W h => rsorted_any d b M W hm ((hM.below h).mono h.size)
  obtain ⟨r, hr⟩ : ∃ r, r = decide (L.Perm M) := ⟨_, rfl⟩
  rw [← hr]
  have HRR := hid hr
  have HLN := hid hn
  obtain ⟨n0, hn0⟩ : ∃ n, n = L.length := ⟨_, rfl⟩
  rw [← hn0] at H1 ⊢
  generalize M.length = m0 at *
  clear hn0 hn hm
  clear hL hM hr
  go_enter Tryd.func14, Tryd.ntmps14
  go_wp2_with fail
  refine H1.out.mono ?_
  rintro e w1 ⟨l, a1, c1, rfl, hp1, hs1, hl1, hb1⟩
  have HP1 := hid (And.intro hp1 hs1)
  have HL1 := hid hl1
  have HB1 := hid hb1
  have H3 := hid (H2.out w1 hb1)
  obtain ⟨n, hn'⟩ : ∃ n, n = l.length := ⟨_, rfl⟩
  have HN := hid hn'
  rw [← hn']
  clear hp1 hs1 hl1 hb1 H1 H2 hn'
  go_wp2_with fail
  refine H3.out.mono ?_
  rintro e w2 ⟨q, a2, c2, rfl, hp2, hs2, hl2, hb2⟩
  have HP2 := hid (And.intro hp2 hs2)
  have HL2 := hid hl2
  have HB2 := hid (HB1.out.trans (hb2.mono HB1.out.size))
  have HL1' := hid ((HL1.out.below hb2).mono hb2.size)
  obtain ⟨m, hm'⟩ : ∃ m, m = q.length := ⟨_, rfl⟩
  have HM := hid hm'
  rw [← hm']
  have HEQ : Hid (r = decide (l = q)) := by
    unfold Hid
    rw [HRR.out]
    congr 1
    exact propext ⟨fun h => sorted_one HP1.out.2 hs2 (HP1.out.1.trans (h.trans hp2.symm)), fun h => HP1.out.1.symm.trans (by rw [h]; exact hp2)⟩
  clear hp2 hs2 hl2 hb2 H3 hm' HL1 HB1 HRR
  by_cases hnm : n = m
  · subst hnm
    have hne : ((n : Int) != (n : Int)) = false := by simp
    have hnb : n ≤ 281474976710656 := by
      have h1 := HP1.out.1.length_eq
      have h2 := HLN.out
      have h3 := HN.out
      omega
    go_wp2_with fail
    clear hne
    go_loopw [5] (fun iv wr => ∃ (i k : Nat), i ≤ n ∧ iv = .int .i64 i ∧ Hid (wr = w2.drewN k) ∧ Hid (∀ j, j < i → cat l j = cat q j)) (fun iv _ => n - (intOf iv).toNat)
    case atStart => exact ⟨0, 0, Nat.zero_le _, rfl, rfl, fun j hj => by omega⟩
    case round =>
      obtain ⟨i, k, hi, rfl, HW, HS⟩ := hrel
      by_cases hlt : i < n
      · have hlt2 : (i : Int) < (n : Int) := by omega
        have his : IntKind.i64.wrap ((i : Int) + 1) = (i : Int) + 1 := by rw [IntKind.wrap_i64]; omega
        obtain ⟨g1, o1, rfl, _, x0, x1⟩ := HL1'.out.row i (by have := HN.out; omega)
        obtain ⟨g2, o2, rfl, _, y0, y1⟩ := HL2.out.row i (by have := HM.out; omega)
        have x0' : wr.cell? ⟨g1, o1 + i * 2, none⟩ = some (.int .i64 (cat l i).1) := by rw [HW.out]; exact x0
        have x1' : wr.cell? ⟨g1, o1 + i * 2 + 1, none⟩ = some (.int .i64 (cat l i).2) := by rw [HW.out]; exact x1
        have y0' : wr.cell? ⟨g2, o2 + i * 2, none⟩ = some (.int .i64 (cat q i).1) := by rw [HW.out]; exact y0
        have y1' : wr.cell? ⟨g2, o2 + i * 2 + 1, none⟩ = some (.int .i64 (cat q i).2) := by rw [HW.out]; exact y1
        have hne := neq_cel (cat l i) (cat q i)
        by_cases he : cat l i = cat q i
        · have HS2 : Hid (∀ j, j < i + 1 → cat l j = cat q j) := fun j hj => by
            by_cases e : j = i
            · subst e; exact he
            · exact HS.out j (by omega)
          rw [decide_eq_true he, Bool.not_true] at hne
          clear x0 x1 y0 y1 he
          generalize (cat l i).1 = u0 at *
          generalize (cat l i).2 = u1 at *
          generalize (cat q i).1 = v0 at *
          generalize (cat q i).2 = v1 at *
          go_wp2_with fail
          go_quiet (fail)
          go_wp2_with fail
          go_roundw
          case rel => exact ⟨i + 1, _, by omega, by go_num, by unfold Hid; rw [HW.out, World.drewN_drewN], HS2⟩
          case measure => simp [intOf]; omega
        · have HF : Hid (r = false) := by
            unfold Hid
            rw [HEQ.out]
            exact decide_eq_false (fun e => he (by rw [e]))
          rw [decide_eq_false he, Bool.not_false] at hne
          clear x0 x1 y0 y1 he
          generalize (cat l i).1 = u0 at *
          generalize (cat l i).2 = u1 at *
          generalize (cat q i).1 = v0 at *
          generalize (cat q i).2 = v1 at *
          go_wp2_with fail
          go_quiet (fail)
          go_wp2_with fail
          go_ret
          exact ⟨by rw [HF.out]; rfl, by rw [HW.out]; exact below_drewN (below_drewN HB2.out _) _⟩
      · obtain rfl : i = n := by omega
        have hlt2 : ¬ (i : Int) < (i : Int) := by omega
        have HT : Hid (r = true) := by
          unfold Hid
          rw [HEQ.out]
          refine decide_eq_true (List.ext_getElem (by have := HN.out; have := HM.out; omega) (fun j h1 h2 => ?_))
          have := HS.out j (by have := HN.out; omega)
          simpa [cat, h1, h2] using this
        go_wp2_with fail
        go_ret
        exact ⟨by rw [HT.out]; rfl, by rw [HW.out]; exact below_drewN HB2.out _⟩
  · have hne : ((n : Int) != (m : Int)) = true := by rw [bne_iff_ne]; omega
    have HF : Hid (r = false) := by
      unfold Hid
      rw [HEQ.out]
      exact decide_eq_false (fun e => hnm (by have h1 := HN.out; have h2 := HM.out; rw [e] at h1; omega))
    go_wp2_with fail
    go_ret
    exact ⟨by rw [HF.out]; rfl, HB2.out⟩

end Go.Proofs.YthemehdcakimgakDoor
