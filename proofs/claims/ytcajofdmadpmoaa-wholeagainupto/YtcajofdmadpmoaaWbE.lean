/- Package whole: lists of lists, Openings read. -/
import Derived.Test.YtcajofdmadpmoaaWbD
namespace Go.Proofs.Ytcajofdmadpmoaa
open Go.RowKit

theorem gb_bel {w w1 w2 : World} {R : Nat} (h : w.grownBy w1 (some R)) (e : Below w.heap.size w1 w2) : w.grownBy w2 (some R) :=
  ⟨e.os.trans h.os, e.tape.trans h.tape, e.output.trans h.output, Nat.le_trans h.size e.size, fun b hb hr => (e.block b hb).trans (h.block b hb hr)⟩
theorem RdW.bel {w w' : World} {R N0 : Nat} {bs : List Nat} (h : RdW w R bs) (e : Below N0 w w') (hR : R < N0) : RdW w' R bs := h.blocks (fun b hb => e.block b (by omega))

set_option maxRecDepth 100000 in
theorem numbers_any (R : Nat) (bs : List Nat) (w : World) (h : RdW w R bs) : Calls Try.prog 15 #[.pointer (some ⟨R, 0, none⟩)] w (ReE (fun w v l => SlI w l v) R w (rdL rdI bs)) := by
  have HR := hid (readInts_any R bs w h)
  cases hc : rdL rdI bs with
  | none =>
    rw [hc] at HR
    clear h hc
    go_enter Try.func15, Try.ntmps15
    go_wp2_with fail
    refine HR.out.mono ?_
    rintro e w1 ⟨hg1, rfl⟩
    exact ⟨rfl, hg1, rfl⟩
  | some xr =>
    obtain ⟨x, r⟩ := xr
    rw [hc] at HR
    clear h hc
    go_enter Try.func15, Try.ntmps15
    go_wp2_with fail
    refine HR.out.mono ?_
    rintro e w1 ⟨hg1, v, rfl, hs, h1⟩
    have HE := hid (And.intro hg1 (And.intro hs h1))
    clear hg1 hs h1 HR
    go_wp2_with fail
    go_ret
    exact ⟨HE.out.1, v, rfl, HE.out.2.1, HE.out.2.2⟩

set_option maxRecDepth 100000 in
set_option maxHeartbeats 4000000 in
theorem readRows_any (R : Nat) (bs : List Nat) (w : World) (h : RdW w R bs) : Calls Try.prog 17 #[.pointer (some ⟨R, 0, none⟩), .func (.func 15) #[.pointer (some ⟨R, 0, none⟩)] #[]] w (ReE (fun w v l => OwnI 0 w v l) R w (rdL (rdL rdI) bs)) := by
  have HN := hid (number_any R bs w h)
  have hRl := h.lt
  cases hc : rdI bs with
  | none =>
    rw [rdL_end (rdL rdI) hc]
    rw [hc] at HN
    clear h hc
    go_enter Try.func17, Try.ntmps17
    go_wp2_with fail
    refine HN.out.mono ?_
    rintro e w1 ⟨hg1, rfl⟩
    exact ⟨rfl, hg1, rfl⟩
  | some nr =>
    obtain ⟨n, r⟩ := nr
    rw [rdL_num (rdL rdI) hc]
    rw [hc] at HN
    have hrb : r.length ≤ 1048576 := rdI_le h hc
    clear h hc
    by_cases hok : 0 ≤ n ∧ n ≤ (r.length : Int)
    · rw [if_pos hok]
      obtain ⟨k, rfl⟩ := Int.eq_ofNat_of_zero_le hok.1
      have hkr : k ≤ r.length := by have := hok.2; omega
      have hk2 : (k : Int) ≤ (r.length : Int) := by omega
      have hk20 : k ≤ 1048576 := by omega
      rw [Int.toNat_natCast]
      clear hok
      obtain ⟨T, hT⟩ : ∃ T, T = rdN (rdL rdI) r k := ⟨_, rfl⟩
      rw [← hT]
      have HT := hid hT
      clear hT
      go_enter Try.func17, Try.ntmps17
      go_wp2_with fail
      refine HN.out.mono ?_
      rintro e w1 ⟨hg1, rfl, h1⟩
      have H1 := hid h1
      have HG1 := hid hg1
      obtain ⟨a0, c0, h10, _⟩ := h1
      obtain ⟨nr, hnr⟩ : ∃ nr, nr = r.length := ⟨_, rfl⟩
      rw [← hnr] at hk2 h10
      have x0 : w1.cell? ⟨R, 0, none⟩ = some (.slice a0 nr c0) := by simp [World.cell?, h10]
      have HM := hid (must_yes w1)
      clear hg1 HN h10 hnr
      go_wp2_with fail
      refine HM.out.mono ?_
      rintro e w2 ⟨rfl, hw⟩
      have hwx := hw.symm
      subst hwx
      clear hw HM x0 hk2
      go_wp2_with fail
      go_loopw [6, 22] (fun lv0 iv wr => ∃ (i : Nat) (lv : Value), i ≤ k ∧ iv = .int .i64 (i : Int) ∧ lv = lv0 ∧ Hid (∃ (l : List (List Int)) (r' : List Nat), rdN (rdL rdI) r i = some (l, r') ∧ l.length = i ∧ OwnI w.heap.size wr lv l ∧ RdW wr R r' ∧ w.grownBy wr (some R))) (fun _ iv _ => k - (intOf iv).toNat)
      case atStart => exact ⟨0, _, Nat.zero_le _, rfl, rfl, [], r, rfl, rfl, OwnI.nil _ _, H1.out, HG1.out⟩
      case round =>
        obtain ⟨i, lv, hi', rfl, rfl, hI⟩ := hrel
        obtain ⟨l, r', e1, e2, e3, e4, e5⟩ := hI.out
        by_cases hlt : i < k
        · have hlt2 : (i : Int) < (k : Int) := by omega
          have hks : IntKind.i64.wrap ((i : Int) + 1) = (i : Int) + 1 := by rw [IntKind.wrap_i64]; omega
          have HO := hid (numbers_any R r' wr e4)
          cases hp : (rdL rdI) r' with
          | none =>
            rw [hp] at HO
            have HE : Hid (T = none) := by
              unfold Hid
              rw [HT.out]
              refine rdN_none (i := i + 1) ?_ k (by omega)
              simp only [rdN, e1, hp]
            have HW := hid e5
            clear hI e1 e3 e4 e5 hp
            go_wp2_with fail
            refine HO.out.mono ?_
            rintro e w3 ⟨hg3, rfl⟩
            refine ⟨rfl, gb_trans HW.out hg3, ?_⟩
            rw [HE.out]
            rfl
          | some xr =>
            obtain ⟨x, r2⟩ := xr
            rw [hp] at HO
            have HS : Hid (rdN (rdL rdI) r (i + 1) = some (l ++ [x], r2) ∧ l.length = i) := by
              refine ⟨?_, e2⟩
              simp only [rdN, e1, hp]
            have HW := hid e5
            have HOW := hid e3
            have HR4 := hid e4
            clear hI e1 e3 e4 e5 hp
            go_wp2_with fail
            refine HO.out.mono ?_
            rintro e w3 ⟨hg3, v3, rfl, hs3, h3⟩
            have H3 := hid h3
            have HG3 := hid (gb_trans HW.out hg3)
            have HOX := hid (HOW.out.ki (rd_ko HR4.out hg3).1)
            have hs3' : SlI w3 x v3 := hs3
            have HSX := hid hs3'
            obtain ⟨a3, c3, rfl, _⟩ := hs3'
            have HLE := hid HS.out.2
            clear h3 hg3 hs3 HO
            obtain ⟨nx, hnx⟩ : ∃ nx, nx = x.length := ⟨_, rfl⟩
            rw [← hnx] at HSX ⊢
            clear hnx
            go_wp2_with (at_builtin; refine wpList_rowI w3 w.heap.size rfl _ _ rfl _ _ l x HOX.out HSX.out rfl rfl (by rw [HLE.out]; omega) HG3.out.size ?_)
            intro v' w5 ho5 hb5
            have HE : Hid (∃ (l : List (List Int)) (r' : List Nat), rdN (rdL rdI) r (i + 1) = some (l, r') ∧ l.length = i + 1 ∧ OwnI w.heap.size w5 v' l ∧ RdW w5 R r' ∧ w.grownBy w5 (some R)) := ⟨l ++ [x], r2, HS.out.1, by rw [List.length_append, HS.out.2]; rfl, ho5, H3.out.bel hb5 hRl, gb_bel HG3.out hb5⟩
            clear ho5 hb5 HOX HR4 HOW HW HS HSX
            go_wp2_with fail
            go_roundw
            case rel => exact ⟨i + 1, _, by omega, by go_num, rfl, HE⟩
            case measure => simp [intOf]; omega
        · obtain rfl : i = k := by omega
          have hlt2 : ¬ (i : Int) < (i : Int) := by omega
          have HE : Hid (∃ l r', T = some (l, r') ∧ ((fun w v l => OwnI 0 w v l)) wr lv l ∧ RdW wr R r' ∧ w.grownBy wr (some R)) := ⟨l, r', by rw [HT.out]; exact e1, e3.mono (Nat.zero_le _), e4, e5⟩
          clear hI e1 e2 e3 e4 e5
          go_wp2_with fail
          go_ret
          obtain ⟨l, r', k1, k2, k3, k4⟩ := HE.out
          refine ⟨k4, ?_⟩
          rw [k1]
          exact ⟨_, rfl, k2, k3⟩
    · rw [if_neg hok]
      have hd : (decide (0 ≤ n) && decide (n ≤ (r.length : Int))) = false := by
        rw [Bool.and_eq_false_iff, decide_eq_false_iff_not, decide_eq_false_iff_not]
        omega
      have HM := hid (fun W => must_no W)
      by_cases h0 : 0 ≤ n
      · have hd2 : decide (n ≤ (r.length : Int)) = false := decide_eq_false (fun e => hok ⟨h0, e⟩)
        clear hok hd
        go_enter Try.func17, Try.ntmps17
        go_wp2_with fail
        refine HN.out.mono ?_
        rintro e w1 ⟨hg1, rfl, h1⟩
        have HG1 := hid hg1
        obtain ⟨a0, c0, h10, _⟩ := h1
        obtain ⟨nr, hnr⟩ : ∃ nr, nr = r.length := ⟨_, rfl⟩
        rw [← hnr] at hd2 h10
        have x0 : w1.cell? ⟨R, 0, none⟩ = some (.slice a0 nr c0) := by simp [World.cell?, h10]
        clear hg1 HN h10 hnr
        go_wp2_with fail
        refine (HM.out w1).mono ?_
        rintro e w2 ⟨rfl, rfl⟩
        exact ⟨rfl, HG1.out, rfl⟩
      · have hd2 : decide (0 ≤ n) = false := decide_eq_false h0
        clear hok hd
        go_enter Try.func17, Try.ntmps17
        go_wp2_with fail
        refine HN.out.mono ?_
        rintro e w1 ⟨hg1, rfl, h1⟩
        have HG1 := hid hg1
        clear hg1 HN h1
        go_wp2_with fail
        refine (HM.out w1).mono ?_
        rintro e w2 ⟨rfl, rfl⟩
        exact ⟨rfl, HG1.out, rfl⟩

end Go.Proofs.Ytcajofdmadpmoaa
