/- Package whole: the reference's reader: a number. -/
import Derived.Test.YtcajofdmadpmoaaDoorWbAI
namespace Go.Proofs.YtcajofdmadpmoaaDoor
open Go.RowKit

/-- the reference's reader, with what lies ahead; none: it has failed -/
def RF (Z0 : Nat) (full : List Nat) (w : World) (R : Nat) (s : Option (List Nat)) : Prop :=
  ∃ a c k, k ≤ full.length ∧ Z0 ≤ R ∧ w.heap[R]? = some (.cells #[.slice a full.length c, .int .i64 ((k : Nat) : Int), .bool s.isNone] 67 (0, 0)) ∧ ByR Z0 w a c full ∧ (∀ b, b ∈ full → b < 256) ∧ full.length ≤ 1048576 ∧ ∀ bs, s = some bs → bs = full.drop k
theorem RF.lt {Z0 : Nat} {full : List Nat} {w : World} {R : Nat} {s : Option (List Nat)} (h : RF Z0 full w R s) : R < w.heap.size := by
  obtain ⟨_, _, _, _, _, h, _⟩ := h
  exact (Array.getElem?_eq_some_iff.1 h).1
theorem RF.two {Z0 : Nat} {full : List Nat} {w w' : World} {R : Nat} {s : Option (List Nat)} (h : RF Z0 full w R s) (e : ∀ b, b < Z0 → w'.heap[b]? = w.heap[b]?) (eR : w'.heap[R]? = w.heap[R]?) : RF Z0 full w' R s := by
  obtain ⟨a, c, k, h0, hz, h1, h2, h3⟩ := h
  exact ⟨a, c, k, h0, hz, eR.trans h1, h2.blocks e, h3⟩
theorem RF.blocks {Z0 : Nat} {full : List Nat} {w w' : World} {R : Nat} {s : Option (List Nat)} (h : RF Z0 full w R s) (e : ∀ b, b ≤ R → w'.heap[b]? = w.heap[b]?) : RF Z0 full w' R s :=
  h.two (fun b hb => e b (by obtain ⟨_, _, _, _, hz, _⟩ := h; omega)) (e R (Nat.le_refl _))
theorem RF.below {Z0 : Nat} {full : List Nat} {w w' : World} {R : Nat} {s : Option (List Nat)} (h : RF Z0 full w R s) (e : Below w.heap.size w w') : RF Z0 full w' R s :=
  h.blocks (fun b hb => e.block b (by have := h.lt; omega))
theorem RF.le {Z0 : Nat} {full : List Nat} {w : World} {R : Nat} {bs : List Nat} (h : RF Z0 full w R (some bs)) : bs.length ≤ 1048576 := by
  obtain ⟨_, _, k, _, _, _, _, _, h1, h2⟩ := h
  rw [h2 bs rfl, List.length_drop]
  omega
theorem RF.all {Z0 : Nat} {full : List Nat} {w : World} {R : Nat} {bs : List Nat} (h : RF Z0 full w R (some bs)) : ∀ b, b ∈ bs → b < 256 := fun b hb => by
  obtain ⟨_, _, k, _, _, _, _, h0, h1, h2⟩ := h
  rw [h2 bs rfl] at hb
  exact h0 b (List.mem_of_mem_drop hb)
/-- the reader fails -/
theorem RF.bad {Z0 : Nat} {full : List Nat} {w : World} {R : Nat} {s : Option (List Nat)} (h : RF Z0 full w R s) : RF Z0 full (w.setCell ⟨R, 2, none⟩ (.bool true)) R none := by
  obtain ⟨a, c, k, h0, hz, h1, h2, h3, h4, _⟩ := h
  refine ⟨a, c, k, h0, hz, set_atW h1 2 _, ⟨fun j hj => ?_, h2.room, h2.nil⟩, h3, h4, fun bs e => by cases e⟩
  obtain ⟨b, o, e1, e2, e3⟩ := h2.row j hj
  exact ⟨b, o, e1, e2, (World.cell?_of_block (w := w) (a := ⟨b, o + j, none⟩) (Below.heap_setCell _ _ _ _ (by show b ≠ R; omega))).trans e3⟩
theorem gb_rf (w : World) (R i : Nat) (x : Value) : w.grownBy (w.setCell ⟨R, i, none⟩ x) (some R) := gb_setCell (gb_refl _ _) i x
/-- how the reference's reading of anything ends -/
def RfE {α : Type} (P : World → Value → α → Prop) (Z0 : Nat) (full : List Nat) (R : Nat) (w : World) (o : Option (α × List Nat)) (e : Ending) (w' : World) : Prop :=
  w.grownBy w' (some R) ∧ ∃ v x, e = .returned v ∧ P w' v x ∧ RF Z0 full w' R (o.map (·.2)) ∧ ∀ y r, o = some (y, r) → x = y
/-- a byte of what lies ahead -/
theorem RF.byte {Z0 : Nat} {full : List Nat} {w : World} {R b : Nat} {r : List Nat} (h : RF Z0 full w R (some (b :: r))) : ∃ B o c k, w.heap[R]? = some (.cells #[.slice (some ⟨B, o, none⟩) full.length c, .int .i64 ((k : Nat) : Int), .bool false] 67 (0, 0)) ∧ k < full.length ∧ w.cell? ⟨B, o + k, none⟩ = some (.int .u8 (b : Int)) ∧ B ≠ R ∧ full.length ≤ 1048576 ∧ b < 256 ∧
    RF Z0 full (w.setCell ⟨R, 1, none⟩ (.int .i64 ((k + 1 : Nat) : Int))) R (some r) := by
  have hb256 := h.all b (by simp)
  obtain ⟨a, c, k, h0, hz, h1, h2, h3, h4, h5⟩ := h
  have e := h5 _ rfl
  have hk : k < full.length := by
    rcases Nat.lt_or_ge k full.length with h | h
    · exact h
    · rw [List.drop_eq_nil_of_le h] at e; cases e
  rw [List.drop_eq_getElem_cons hk] at e
  injection e with e1 e2
  obtain ⟨B, o, rfl, hb, hc⟩ := h2.row k hk
  have hbat : bat full k = b := by unfold bat; rw [e1, List.getD_eq_getElem?_getD, List.getElem?_eq_getElem hk]; rfl
  rw [hbat] at hc
  refine ⟨B, o, c, k, h1, hk, hc, by omega, h4, hb256, some ⟨B, o, none⟩, c, k + 1, by omega, hz, set_atW h1 1 _, ⟨fun j hj => ?_, h2.room, h2.nil⟩, h3, h4, fun bs e => ?_⟩
  · obtain ⟨b', o', e1, e2, e3⟩ := h2.row j hj
    exact ⟨b', o', e1, e2, (World.cell?_of_block (w := w) (a := ⟨b', o' + j, none⟩) (Below.heap_setCell _ _ _ _ (by show b' ≠ R; omega))).trans e3⟩
  · injection e with e
    rw [← e, e2]
theorem RF.last {Z0 : Nat} {full : List Nat} {w : World} {R : Nat} (h : RF Z0 full w R (some [])) : ∃ a c, w.heap[R]? = some (.cells #[.slice a full.length c, .int .i64 (full.length : Int), .bool false] 67 (0, 0)) := by
  obtain ⟨a, c, k, h0, hz, h1, h2, h3, h4, h5⟩ := h
  have e := h5 _ rfl
  have hk : k = full.length := by
    have := congrArg List.length e
    rw [List.length_drop] at this
    simp at this
    omega
  rw [hk] at h1
  exact ⟨a, c, h1⟩

/-- behind a failure nothing is read -/
theorem rfnum_bad (Z0 : Nat) (full : List Nat) (R : Nat) (w : World) (h : RF Z0 full w R none) : Calls Tryd.prog 26 #[.pointer (some ⟨R, 0, none⟩)] w (RfE (fun _ v (x : Int) => v = .int .i64 x) Z0 full R w none) := by
  obtain ⟨a, c, k, h0, hz, h1, h2, h3, h4, h5⟩ := id h
  obtain ⟨N, hN⟩ : ∃ N, N = full.length := ⟨_, rfl⟩
  rw [← hN] at h1
  have y0 : w.cell? ⟨R, 0, none⟩ = some (.slice a N c) := by simp [World.cell?, h1]
  have y1 : w.cell? ⟨R, 1, none⟩ = some (.int .i64 (k : Int)) := by simp [World.cell?, h1]
  have y2 : w.cell? ⟨R, 2, none⟩ = some (.bool true) := by simp [World.cell?, h1]
  have HE : Hid (∀ n, RF Z0 full ((w.drewN n).setCell ⟨R, 2, none⟩ (.bool true)) R none ∧ w.grownBy ((w.drewN n).setCell ⟨R, 2, none⟩ (.bool true)) (some R)) := fun n => ⟨(h.below (below_drewN (Below.refl _ _) n)).bad, gb_trans (gb_below (below_drewN (Below.refl _ _) n)) (gb_rf _ _ _ _)⟩
  have f2 : w.frozen? ⟨R, 2, none⟩ = false := by simp [World.frozen?, h1]
  clear h h0 hz h1 h2 h3 h4 h5 hN
  by_cases hk : (k : Int) < (N : Int)
  · have hd : decide ((k : Int) < (N : Int)) = true := decide_eq_true hk
    go_enter Tryd.func26, Tryd.ntmps26
    go_wp2_with fail
    go_loopw [3] (fun _ wr => wr = w) (fun _ _ => 0)
    case atStart => rfl
    case round =>
      obtain rfl := hrel
      go_wp2_with fail
      go_quiet (fail)
      go_wp2_with fail
      go_ret
      exact ⟨(HE.out _).2, _, _, rfl, rfl, (HE.out _).1, fun y r e => by cases e⟩
  · have hd : decide (k < N) = false := decide_eq_false (by omega)
    clear hk
    go_enter Tryd.func26, Tryd.ntmps26
    go_wp2_with fail
    go_loopw [3] (fun _ wr => wr = w) (fun _ _ => 0)
    case atStart => rfl
    case round =>
      obtain rfl := hrel
      go_wp2_with fail
      go_quiet (fail)
      go_wp2_with fail
      go_ret
      exact ⟨(HE.out _).2, _, _, rfl, rfl, (HE.out _).1, fun y r e => by cases e⟩

set_option maxRecDepth 100000 in
set_option maxHeartbeats 4000000 in
theorem rfnum_good (Z0 : Nat) (full : List Nat) (R : Nat) (bs : List Nat) (w : World) (h : RF Z0 full w R (some bs)) : Calls Tryd.prog 26 #[.pointer (some ⟨R, 0, none⟩)] w (RfE (fun _ v (x : Int) => v = .int .i64 x) Z0 full R w (rdI bs)) := by
  obtain ⟨t, ht⟩ : ∃ t, t = rdA bs 0 0 := ⟨_, rfl⟩
  rw [rdI_sgo, ← ht]
  have HR := hid h
  have HT := hid ht
  have HBL : Hid (bs.length ≤ 1048576) := h.le
  clear h ht
  go_enter Tryd.func26, Tryd.ntmps26
  go_wp2_with fail
  go_loopw [3, 4] (fun nv sv wr => ∃ (a s : Nat) (bs' : List Nat), s ≤ 63 ∧ a < 2 ^ s ∧ nv = .int .u64 (a : Int) ∧ sv = .int .i64 (s : Int) ∧ Hid (s % 7 = 0 ∧ t = rdA bs' s a ∧ RF Z0 full wr R (some bs') ∧ w.grownBy wr (some R))) (fun _ sv _ => 70 - (intOf sv).toNat)
  case atStart => exact ⟨0, 0, bs, by decide, by decide, rfl, rfl, rfl, HT.out, HR.out, gb_refl _ _⟩
  case round =>
    obtain ⟨a, s, bs', hs, ha, rfl, rfl, hI⟩ := hrel
    cases hbs : bs' with
    | nil =>
      subst hbs
      obtain ⟨ad, c, h1⟩ := hI.out.2.2.1.last
      obtain ⟨N, hN⟩ : ∃ N, N = full.length := ⟨_, rfl⟩
      rw [← hN] at h1
      have y0 : wr.cell? ⟨R, 0, none⟩ = some (.slice ad N c) := by simp [World.cell?, h1]
      have y1 : wr.cell? ⟨R, 1, none⟩ = some (.int .i64 (N : Int)) := by simp [World.cell?, h1]
      have y2 : wr.cell? ⟨R, 2, none⟩ = some (.bool false) := by simp [World.cell?, h1]
      have f2 : wr.frozen? ⟨R, 2, none⟩ = false := by simp [World.frozen?, h1]
      have hd : decide ((N : Int) < (N : Int)) = false := decide_eq_false (by omega)
      have HE : Hid (∀ n, RF Z0 full ((wr.drewN n).setCell ⟨R, 2, none⟩ (.bool true)) R none ∧ w.grownBy ((wr.drewN n).setCell ⟨R, 2, none⟩ (.bool true)) (some R)) := fun n => ⟨(hI.out.2.2.1.below (below_drewN (Below.refl _ _) n)).bad, gb_trans (gb_trans hI.out.2.2.2 (gb_below (below_drewN (Below.refl _ _) n))) (gb_rf _ _ _ _)⟩
      have HT2 : Hid (t = none) := hI.out.2.1
      clear hI h1 hN
      go_wp2_with fail
      go_quiet (fail)
      go_wp2_with fail
      go_ret
      rw [HT2.out]
      exact ⟨(HE.out _).2, _, _, rfl, rfl, (HE.out _).1, fun y r e => by cases e⟩
    | cons b r =>
      subst hbs
      obtain ⟨B, o, c, k, h1, hk, hcb, hBR, hfl, hb256, hnx⟩ := hI.out.2.2.1.byte
      obtain ⟨N, hN⟩ : ∃ N, N = full.length := ⟨_, rfl⟩
      rw [← hN] at h1 hk hfl
      have y0 : wr.cell? ⟨R, 0, none⟩ = some (.slice (some ⟨B, o, none⟩) N c) := by simp [World.cell?, h1]
      have y1 : wr.cell? ⟨R, 1, none⟩ = some (.int .i64 (k : Int)) := by simp [World.cell?, h1]
      have y2 : wr.cell? ⟨R, 2, none⟩ = some (.bool false) := by simp [World.cell?, h1]
      have f1 : wr.frozen? ⟨R, 1, none⟩ = false := by simp [World.frozen?, h1]
      have hkk : (k : Int) < (N : Int) := by omega
      have hd : decide ((k : Int) < (N : Int)) = true := decide_eq_true hkk
      have hk1 : IntKind.i64.wrap ((k : Int) + 1) = (k : Int) + 1 := by rw [IntKind.wrap_i64]; omega
      have HN1 : Hid (∀ n, RF Z0 full ((wr.drewN n).setCell ⟨R, 1, none⟩ (.int .i64 ((k : Int) + 1))) R (some r) ∧ w.grownBy ((wr.drewN n).setCell ⟨R, 1, none⟩ (.int .i64 ((k : Int) + 1))) (some R)) := fun n => ⟨(hnx.blocks (fun _ _ => rfl)), gb_trans (gb_trans hI.out.2.2.2 (gb_below (below_drewN (Below.refl _ _) n))) (gb_rf _ _ _ _)⟩
      have HS := hid hI.out
      have HBAD : Hid (∀ n, RF Z0 full (((wr.drewN n).setCell ⟨R, 1, none⟩ (.int .i64 ((k : Int) + 1))).setCell ⟨R, 2, none⟩ (.bool true)) R none ∧ w.grownBy (((wr.drewN n).setCell ⟨R, 1, none⟩ (.int .i64 ((k : Int) + 1))).setCell ⟨R, 2, none⟩ (.bool true)) (some R)) := fun n => ⟨(HN1.out n).1.bad, gb_trans (HN1.out n).2 (gb_rf _ _ _ _)⟩
      have f2 : wr.frozen? ⟨R, 2, none⟩ = false := by simp [World.frozen?, h1]
      have hbad : (s = 63 ∧ 1 < b) ∨ (0 < s ∧ b = 0) → t = none := by
        intro h
        rw [HS.out.2.1]
        unfold rdA
        rcases h with ⟨rfl, h2⟩ | ⟨h1, rfl⟩
        · rw [if_neg (by omega)]
        · rw [if_pos (by omega), if_pos (by omega), if_neg (by omega)]
      have HBD := hid hbad
      obtain ⟨A, hAE⟩ : ∃ A, A = a + b % 128 * 2 ^ s := ⟨_, rfl⟩
      have HAE := hid hAE
      have hok1 : ¬ ((s = 63 ∧ 1 < b) ∨ (0 < s ∧ b = 0)) → A < 18446744073709551616 := by
        intro hn
        rw [hAE]
        by_cases h : s = 63
        · subst h
          have h1 : b % 128 ≤ 1 := by omega
          have := Nat.mul_le_mul_right (2 ^ 63) h1
          omega
        · have hp : 2 ^ s ≤ 2 ^ 56 := Nat.pow_le_pow_right (by decide) (by have := HS.out.1; omega)
          have h1 : b % 128 ≤ 127 := by omega
          have := Nat.mul_le_mul h1 hp
          omega
      have hok2 : ¬ ((s = 63 ∧ 1 < b) ∨ (0 < s ∧ b = 0)) → (b < 128 → t = some (A, r)) ∧ (¬ b < 128 → t = rdA r (s + 7) A ∧ s + 7 ≤ 63 ∧ A < 2 ^ (s + 7)) := by
        intro hn
        have hA : s < 63 ∨ b ≤ 1 := by omega
        refine ⟨fun h128 => ?_, fun h128 => ⟨?_, ?_, ?_⟩⟩
        · rw [HS.out.2.1]; unfold rdA; rw [if_pos hA, if_pos h128, if_pos (by omega), ← hAE]
        · rw [HS.out.2.1]
          conv => lhs; unfold rdA
          rw [if_pos hA, if_neg h128, ← hAE]
        · have := HS.out.1; omega
        · have h1 : b % 128 ≤ 127 := by omega
          have := Nat.mul_le_mul_right (2 ^ s) h1
          have h2 : 2 ^ (s + 7) = 128 * 2 ^ s := by rw [Nat.pow_add, Nat.mul_comm]
          rw [hAE, h2]
          omega
      have HOK1 := hid hok1
      have HOK2 := hid hok2
      have HS7 : Hid (s % 7 = 0) := HS.out.1
      clear hI h1 hnx hN hbad hok1 hok2
      by_cases hbad : (s = 63 ∧ 1 < b) ∨ (0 < s ∧ b = 0)
      · have HTN : Hid (t = none) := HBD.out hbad
        clear HS HN1 HBD HOK1 HOK2 HAE hAE
        by_cases h1 : s = 63 <;> by_cases h2 : 1 < b <;> by_cases h3 : 0 < s <;> by_cases h4 : b = 0
        all_goals first | (exfalso; omega) | skip
        all_goals (first | (have q1 : ((s : Int) == 63) = true := by simp; omega) | (have q1 : ((s : Int) == 63) = false := by simp; omega))
        all_goals (first | (have q2 : decide (1 < (b : Int)) = true := by simp; omega) | (have q2 : decide (1 < (b : Int)) = false := by simp; omega))
        all_goals (first | (have q3 : decide (0 < s) = true := by simp; omega) | (have q3 : decide (0 < s) = false := by simp; omega))
        all_goals (first | (have q4 : ((b : Int) == 0) = true := by simp; omega) | (have q4 : ((b : Int) == 0) = false := by simp; omega))
        all_goals clear h1 h2 h3 h4 hbad
        all_goals go_wp2_with fail
        all_goals go_quiet (fail)
        all_goals go_wp2_with fail
        all_goals go_quiet (fail)
        all_goals go_wp2_with fail
        all_goals go_ret
        all_goals rw [HTN.out]
        all_goals exact ⟨(HBAD.out _).2, _, _, rfl, rfl, (HBAD.out _).1, fun y r e => by cases e⟩
      · have hA64 := HOK1.out hbad
        have hor : bits BinOp.or IntKind.u64 (a : Int) (IntKind.u64.wrap ((b : Int) % 128 * 2 ^ s)) = (A : Int) := by
          have := or_shift a (b % 128) s ha (by rw [← hAE]; exact hA64)
          rw [hAE, ← this]
          simp
        have hsg : IntKind.i64.wrap (A : Int) = sgz A := wrap_sgz hA64
        clear hAE HAE
        by_cases h128 : b < 128
        · have hb7 : (b : Int) < 128 := by omega
          have HTN : Hid (t = some (A, r)) := (HOK2.out hbad).1 h128
          clear HS HBD HOK1 HOK2 HBAD
          by_cases h1 : s = 63 <;> by_cases h2 : 1 < b <;> by_cases h3 : 0 < s <;> by_cases h4 : b = 0
          all_goals first | (exfalso; omega) | skip
          all_goals (first | (have q1 : ((s : Int) == 63) = true := by simp; omega) | (have q1 : ((s : Int) == 63) = false := by simp; omega))
          all_goals (first | (have q2 : decide (1 < (b : Int)) = true := by simp; omega) | (have q2 : decide (1 < (b : Int)) = false := by simp; omega))
          all_goals (first | (have q3 : decide (0 < s) = true := by simp; omega) | (have q3 : decide (0 < s) = false := by simp; omega))
          all_goals (first | (have q4 : ((b : Int) == 0) = true := by simp; omega) | (have q4 : ((b : Int) == 0) = false := by simp; omega))
          all_goals clear h1 h2 h3 h4 hbad h128
          all_goals go_wp2_with fail
          all_goals go_quiet (fail)
          all_goals go_wp2_with fail
          all_goals go_quiet (fail)
          all_goals go_wp2_with fail
          all_goals go_ret
          all_goals rw [HTN.out]
          all_goals exact ⟨(HN1.out _).2, _, _, rfl, rfl, (HN1.out _).1, fun y r e => by injection e with e; injection e with e _⟩
        · have hb7 : ¬ (b : Int) < 128 := by omega
          have hks : IntKind.i64.wrap ((s : Int) + 7) = (s : Int) + 7 := by rw [IntKind.wrap_i64]; omega
          have HTN := hid ((HOK2.out hbad).2 h128)
          clear HS HBD HOK1 HOK2 HBAD
          by_cases h1 : s = 63 <;> by_cases h2 : 1 < b <;> by_cases h3 : 0 < s <;> by_cases h4 : b = 0
          all_goals first | (exfalso; omega) | skip
          all_goals (first | (have q1 : ((s : Int) == 63) = true := by simp; omega) | (have q1 : ((s : Int) == 63) = false := by simp; omega))
          all_goals (first | (have q2 : decide (1 < (b : Int)) = true := by simp; omega) | (have q2 : decide (1 < (b : Int)) = false := by simp; omega))
          all_goals (first | (have q3 : decide (0 < s) = true := by simp; omega) | (have q3 : decide (0 < s) = false := by simp; omega))
          all_goals (first | (have q4 : ((b : Int) == 0) = true := by simp; omega) | (have q4 : ((b : Int) == 0) = false := by simp; omega))
          all_goals clear h1 h2 h3 h4 hbad h128
          all_goals go_wp2_with fail
          all_goals go_quiet (fail)
          all_goals go_wp2_with fail
          all_goals go_quiet (fail)
          all_goals go_wp2_with fail
          all_goals go_roundw
          all_goals first | exact ⟨A, s + 7, r, HTN.out.2.1, HTN.out.2.2, rfl, by go_num, by have := HS7.out; omega, HTN.out.1, (HN1.out _).1, (HN1.out _).2⟩ | (simp [intOf]; have := HTN.out.2.1; omega)

end Go.Proofs.YtcajofdmadpmoaaDoor
