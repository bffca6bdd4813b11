/- Package code: Distance; the reference's. -/
import Derived.Test.YtbbjbhiihfnkmahCodA
import Derived.Deep.QuietTactic
namespace Go.Proofs.Ytbbjbhiihfnkmah
open Go.RowKit

/-- do two lists differ at a place? -/
def dq (p : Nat) (xs ys : List Int) (j : Nat) : Bool := !(decide (j < xs.length) && decide (j < ys.length) && (zat xs j % (p : Int) == zat ys j % (p : Int)))
/-- at how many places two lists differ -/
def dist (p : Nat) (xs ys : List Int) : Nat := Cod.cnt (dq p xs ys) (max xs.length ys.length)

theorem dq_comm (p : Nat) (xs ys : List Int) (j : Nat) : dq p xs ys j = dq p ys xs j := by
  unfold dq
  rw [Bool.and_comm (decide (j < xs.length)), show (zat xs j % (p : Int) == zat ys j % (p : Int)) = (zat ys j % (p : Int) == zat xs j % (p : Int)) from by rw [Bool.eq_iff_iff, beq_iff_eq, beq_iff_eq]; exact ⟨fun h => h.symm, fun h => h.symm⟩]
theorem cnt_far (P : Nat → Bool) (m t : Nat) (h : ∀ j, m ≤ j → j < m + t → P j = true) : Cod.cnt P (m + t) = Cod.cnt P m + t := by
  induction t with
  | zero => rfl
  | succ t ih =>
    rw [← Nat.add_assoc]
    simp only [Cod.cnt]
    rw [ih (fun j h1 h2 => h j h1 (by omega)), h (m + t) (by omega) (by omega)]
    simp; omega
theorem dist_short (p : Nat) (xs ys : List Int) (h : xs.length ≤ ys.length) : dist p xs ys = (ys.length - xs.length) + Cod.cnt (dq p xs ys) xs.length := by
  unfold dist
  rw [show max xs.length ys.length = xs.length + (ys.length - xs.length) from by omega, cnt_far _ _ _ (fun j h1 h2 => by unfold dq; simp; omega)]
  omega
theorem dist_comm (p : Nat) (xs ys : List Int) : dist p xs ys = dist p ys xs := by
  unfold dist
  rw [Nat.max_comm]
  exact Cod.cnt_congr (fun j _ => dq_comm p xs ys j)

set_option maxRecDepth 100000 in
set_option maxHeartbeats 1000000 in
theorem cdist_any (p b c1 c2 : Nat) (a1 a2 : Option Addr) (xs ys : List Int) (w : World) (h3 : 3 ≤ p) (hm : p ≤ 2147483647) (hp : w.cell? ⟨b, 0, none⟩ = some (.int .i64 p))
    (hn1 : xs.length ≤ 17592186044416) (hn2 : ys.length ≤ 17592186044416) (hf1 : Fits xs) (hf2 : Fits ys) (hr1 : RowB w.heap.size w a1 xs) (hr2 : RowB w.heap.size w a2 ys) :
    Calls Try.prog 17 #[.pointer (some ⟨b, 0, none⟩), .slice a1 xs.length c1, .slice a2 ys.length c2] w fun e w' => e = .returned (.int .i64 (dist p xs ys)) ∧ ∃ m, w' = w.drewN m := by
  have HF1 := hid hf1
  have HF2 := hid hf2
  have HR1 := hid hr1
  have HR2 := hid hr2
  have hmx : Try.prog.follows .mixedOrders = true := by kernel_rfl
  clear hf1 hf2 hr1 hr2
  by_cases hsw : ys.length < xs.length
  · have HDS : Hid (dist p xs ys = (xs.length - ys.length) + Cod.cnt (dq p ys xs) ys.length) := by unfold Hid; rw [dist_comm]; exact dist_short p ys xs (by omega)
    obtain ⟨t, ht⟩ : ∃ t, t = xs.length - ys.length := ⟨_, rfl⟩
    have et : (xs.length : Int) - (ys.length : Int) = (t : Int) := by omega
    rw [← ht] at HDS
    have htl : t ≤ 17592186044416 := by omega
    have hxy : ys.length ≤ xs.length := by omega
    have hcmp : (ys.length : Int) < (xs.length : Int) := by omega
    clear ht
    go_enter Try.func17, Try.ntmps17
    go_wp2_with fail
    go_loopw [7, 24] (fun cv iv wr => ∃ k m : Nat, k ≤ ys.length ∧ iv = .int .i64 k ∧ cv = .int .i64 ((t + Cod.cnt (dq p ys xs) k : Nat) : Int) ∧ Hid (wr = w.drewN m)) (fun _ iv _ => ys.length - (intOf iv).toNat)
    case atStart => exact ⟨0, 0, Nat.zero_le _, rfl, rfl, rfl⟩
    case round =>
      obtain ⟨k, m, hk, rfl, rfl, HW⟩ := hrel
      have hcl := Cod.cnt_le (dq p ys xs) k
      by_cases hlt : k < ys.length
      · have hlt2 : (k : Int) < (ys.length : Int) := by omega
        have hlt3 : (k : Int) < (xs.length : Int) := by omega
        obtain ⟨b1, o1, rfl, hb1, hc1⟩ := HR2.out k hlt
        obtain ⟨b2, o2, rfl, hb2, hc2⟩ := HR1.out k (by omega)
        have hc1' : wr.cell? ⟨b1, o1 + k, none⟩ = some (.int .i64 (zat ys k)) := by rw [HW.out]; exact hc1
        have hc2' : wr.cell? ⟨b2, o2 + k, none⟩ = some (.int .i64 (zat xs k)) := by rw [HW.out]; exact hc2
        have hpc : wr.cell? ⟨b, 0, none⟩ = some (.int .i64 p) := by rw [HW.out]; exact hp
        clear hc1 hc2
        have HPC : Hid (∀ nn, (wr.drewN nn).cell? ⟨b, 0, none⟩ = some (.int .i64 p)) := fun _ => hpc
        obtain ⟨x1, x2⟩ := HF2.out k hlt
        obtain ⟨y1, y2⟩ := HF1.out k (by omega)
        have HO1 : Hid (∀ W : World, W.cell? ⟨b, 0, none⟩ = some (.int .i64 p) → Calls Try.prog 28 #[.pointer (some ⟨b, 0, none⟩), .int .i64 (zat ys k)] W fun e w' => e = .returned (.int .i64 (zat ys k % (p : Int))) ∧ w' = W) := fun W h => of_any p b _ W h3 hm h x1 x2
        have HO2 : Hid (∀ W : World, W.cell? ⟨b, 0, none⟩ = some (.int .i64 p) → Calls Try.prog 28 #[.pointer (some ⟨b, 0, none⟩), .int .i64 (zat xs k)] W fun e w' => e = .returned (.int .i64 (zat xs k % (p : Int))) ∧ w' = W) := fun W h => of_any p b _ W h3 hm h y1 y2
        have HQ : Hid (dq p ys xs k = (zat ys k % (p : Int) != zat xs k % (p : Int))) := by
          unfold Hid dq
          rw [decide_eq_true hlt, decide_eq_true (show k < xs.length by omega)]; rfl
        generalize zat ys k % (p : Int) = xm at *
        generalize zat xs k % (p : Int) = ym at *
        generalize zat ys k = x at *
        generalize zat xs k = y at *
        have HCS : Hid (Cod.cnt (dq p ys xs) (k + 1) = Cod.cnt (dq p ys xs) k + (if dq p ys xs k then 1 else 0)) := rfl
        obtain ⟨cn, hcn⟩ : ∃ cn, cn = Cod.cnt (dq p ys xs) (k + 1) := ⟨_, rfl⟩
        have HCN := hid hcn
        rw [← hcn] at HCS
        clear hcn
        generalize Cod.cnt (dq p ys xs) k = ck at *
        by_cases he : xm = ym
        · have heb : (xm != ym) = false := by rw [he]; simp
          rw [HQ.out, heb] at HCS
          clear he
          go_wp2_with fail
          go_quiet (first
            | (go_at_call 28; first | with_reducible exact Calls.quiet_of_same (HO1.out _ (HPC.out _)) | with_reducible exact Calls.quiet_of_same (HO2.out _ (HPC.out _))))
          have HW2 : Hid (wr.drewN nq = w.drewN (m + nq)) := by unfold Hid; rw [HW.out, World.drewN_drewN]
          go_wp2_with fail
          go_roundw
          case rel => exact ⟨k + 1, m + nq, by omega, by go_num, by rw [← HCN.out, HCS.out]; first | rfl | go_num, HW2⟩
          case measure => simp [intOf]; omega
        · have heb : (xm != ym) = true := by rw [bne_iff_ne]; exact he
          rw [HQ.out, heb] at HCS
          clear he
          have hcn1 : cn = ck + 1 := by rw [HCS.out]; simp
          go_wp2_with fail
          go_quiet (first
            | (go_at_call 28; first | with_reducible exact Calls.quiet_of_same (HO1.out _ (HPC.out _)) | with_reducible exact Calls.quiet_of_same (HO2.out _ (HPC.out _))))
          have HW2 : Hid (wr.drewN nq = w.drewN (m + nq)) := by unfold Hid; rw [HW.out, World.drewN_drewN]
          go_wp2_with fail
          go_roundw
          case rel => exact ⟨k + 1, m + nq, by omega, by go_num, by rw [← HCN.out]; go_num, HW2⟩
          case measure => simp [intOf]; omega
      · have hlt2 : ¬ (k : Int) < (ys.length : Int) := by omega
        obtain rfl : k = ys.length := by omega
        go_wp2_with fail
        go_ret
        exact ⟨by rw [HDS.out]; simp, m, HW.out⟩
  · have HDS : Hid (dist p xs ys = (ys.length - xs.length) + Cod.cnt (dq p xs ys) xs.length) := dist_short p xs ys (by omega)
    obtain ⟨t, ht⟩ : ∃ t, t = ys.length - xs.length := ⟨_, rfl⟩
    have et : (ys.length : Int) - (xs.length : Int) = (t : Int) := by omega
    rw [← ht] at HDS
    have htl : t ≤ 17592186044416 := by omega
    have hxy : xs.length ≤ ys.length := by omega
    have hcmp : ¬ (ys.length : Int) < (xs.length : Int) := by omega
    clear ht
    go_enter Try.func17, Try.ntmps17
    go_wp2_with fail
    go_loopw [7, 24] (fun cv iv wr => ∃ k m : Nat, k ≤ xs.length ∧ iv = .int .i64 k ∧ cv = .int .i64 ((t + Cod.cnt (dq p xs ys) k : Nat) : Int) ∧ Hid (wr = w.drewN m)) (fun _ iv _ => xs.length - (intOf iv).toNat)
    case atStart => exact ⟨0, 0, Nat.zero_le _, rfl, rfl, rfl⟩
    case round =>
      obtain ⟨k, m, hk, rfl, rfl, HW⟩ := hrel
      have hcl := Cod.cnt_le (dq p xs ys) k
      by_cases hlt : k < xs.length
      · have hlt2 : (k : Int) < (xs.length : Int) := by omega
        have hlt3 : (k : Int) < (ys.length : Int) := by omega
        obtain ⟨b1, o1, rfl, hb1, hc1⟩ := HR1.out k hlt
        obtain ⟨b2, o2, rfl, hb2, hc2⟩ := HR2.out k (by omega)
        have hc1' : wr.cell? ⟨b1, o1 + k, none⟩ = some (.int .i64 (zat xs k)) := by rw [HW.out]; exact hc1
        have hc2' : wr.cell? ⟨b2, o2 + k, none⟩ = some (.int .i64 (zat ys k)) := by rw [HW.out]; exact hc2
        have hpc : wr.cell? ⟨b, 0, none⟩ = some (.int .i64 p) := by rw [HW.out]; exact hp
        clear hc1 hc2
        have HPC : Hid (∀ nn, (wr.drewN nn).cell? ⟨b, 0, none⟩ = some (.int .i64 p)) := fun _ => hpc
        obtain ⟨x1, x2⟩ := HF1.out k hlt
        obtain ⟨y1, y2⟩ := HF2.out k (by omega)
        have HO1 : Hid (∀ W : World, W.cell? ⟨b, 0, none⟩ = some (.int .i64 p) → Calls Try.prog 28 #[.pointer (some ⟨b, 0, none⟩), .int .i64 (zat xs k)] W fun e w' => e = .returned (.int .i64 (zat xs k % (p : Int))) ∧ w' = W) := fun W h => of_any p b _ W h3 hm h x1 x2
        have HO2 : Hid (∀ W : World, W.cell? ⟨b, 0, none⟩ = some (.int .i64 p) → Calls Try.prog 28 #[.pointer (some ⟨b, 0, none⟩), .int .i64 (zat ys k)] W fun e w' => e = .returned (.int .i64 (zat ys k % (p : Int))) ∧ w' = W) := fun W h => of_any p b _ W h3 hm h y1 y2
        have HQ : Hid (dq p xs ys k = (zat xs k % (p : Int) != zat ys k % (p : Int))) := by
          unfold Hid dq
          rw [decide_eq_true hlt, decide_eq_true (show k < ys.length by omega)]; rfl
        generalize zat xs k % (p : Int) = xm at *
        generalize zat ys k % (p : Int) = ym at *
        generalize zat xs k = x at *
        generalize zat ys k = y at *
        have HCS : Hid (Cod.cnt (dq p xs ys) (k + 1) = Cod.cnt (dq p xs ys) k + (if dq p xs ys k then 1 else 0)) := rfl
        obtain ⟨cn, hcn⟩ : ∃ cn, cn = Cod.cnt (dq p xs ys) (k + 1) := ⟨_, rfl⟩
        have HCN := hid hcn
        rw [← hcn] at HCS
        clear hcn
        generalize Cod.cnt (dq p xs ys) k = ck at *
        by_cases he : xm = ym
        · have heb : (xm != ym) = false := by rw [he]; simp
          rw [HQ.out, heb] at HCS
          clear he
          go_wp2_with fail
          go_quiet (first
            | (go_at_call 28; first | with_reducible exact Calls.quiet_of_same (HO1.out _ (HPC.out _)) | with_reducible exact Calls.quiet_of_same (HO2.out _ (HPC.out _))))
          have HW2 : Hid (wr.drewN nq = w.drewN (m + nq)) := by unfold Hid; rw [HW.out, World.drewN_drewN]
          go_wp2_with fail
          go_roundw
          case rel => exact ⟨k + 1, m + nq, by omega, by go_num, by rw [← HCN.out, HCS.out]; first | rfl | go_num, HW2⟩
          case measure => simp [intOf]; omega
        · have heb : (xm != ym) = true := by rw [bne_iff_ne]; exact he
          rw [HQ.out, heb] at HCS
          clear he
          have hcn1 : cn = ck + 1 := by rw [HCS.out]; simp
          go_wp2_with fail
          go_quiet (first
            | (go_at_call 28; first | with_reducible exact Calls.quiet_of_same (HO1.out _ (HPC.out _)) | with_reducible exact Calls.quiet_of_same (HO2.out _ (HPC.out _))))
          have HW2 : Hid (wr.drewN nq = w.drewN (m + nq)) := by unfold Hid; rw [HW.out, World.drewN_drewN]
          go_wp2_with fail
          go_roundw
          case rel => exact ⟨k + 1, m + nq, by omega, by go_num, by rw [← HCN.out]; go_num, HW2⟩
          case measure => simp [intOf]; omega
      · have hlt2 : ¬ (k : Int) < (xs.length : Int) := by omega
        obtain rfl : k = xs.length := by omega
        go_wp2_with fail
        go_ret
        exact ⟨by rw [HDS.out]; simp, m, HW.out⟩

end Go.Proofs.Ytbbjbhiihfnkmah
