/- Package whole: a number read. -/
import Derived.Test.YtcajofdmadpmoaaWgAE
namespace Go.Proofs.Ytcajofdmadpmoaa
open Go.RowKit

/-- how the reading of a number ends -/
def NbE (R : Nat) (w : World) (o : Option (Int × List Nat)) (e : Ending) (w' : World) : Prop := w.grownBy w' (some R) ∧ match o with
  | some (n, r) => e = .returned (.int .i64 n) ∧ RdW w' R r
  | none => e = pncW

/-- with its sign -/
def sgo : Option (Nat × List Nat) → Option (Int × List Nat)
  | some (x, r) => some (sgz x, r)
  | none => none
theorem rdI_sgo (bs : List Nat) : rdI bs = sgo (rdA bs 0 0) := by
  unfold rdI sgo
  cases rdA bs 0 0 <;> rfl

theorem or_shift (a c s : Nat) (ha : a < 2 ^ s) (hlt : a + c * 2 ^ s < 18446744073709551616) : bits BinOp.or IntKind.u64 (a : Int) (IntKind.u64.wrap ((c : Int) * 2 ^ s)) = ((a + c * 2 ^ s : Nat) : Int) := by
  have e1 : (c : Int) * 2 ^ s = ((c * 2 ^ s : Nat) : Int) := by simp
  have e2 : IntKind.u64.wrap ((c * 2 ^ s : Nat) : Int) = ((c * 2 ^ s : Nat) : Int) := by rw [IntKind.wrap_u64]; omega
  rw [e1, e2]
  have key : (BitVec.ofInt 64 (a : Int) ||| BitVec.ofInt 64 ((c * 2 ^ s : Nat) : Int)).toNat = a + c * 2 ^ s := by
    rw [BitVec.toNat_or, BitVec.toNat_ofInt, BitVec.toNat_ofInt]
    have h1 : ((a : Int) % ((2 ^ 64 : Nat) : Int)).toNat = a := by omega
    have h2 : (((c * 2 ^ s : Nat) : Int) % ((2 ^ 64 : Nat) : Int)).toNat = c * 2 ^ s := by omega
    rw [h1, h2, Nat.or_comm, ← Nat.shiftLeft_eq, ← Nat.shiftLeft_add_eq_or_of_lt ha, Nat.add_comm]
  show IntKind.u64.wrap (((BitVec.ofInt 64 (a : Int) ||| BitVec.ofInt 64 ((c * 2 ^ s : Nat) : Int)).toNat : Nat) : Int) = _
  rw [key, IntKind.wrap_u64]
  omega
theorem wrap_sgz {x : Nat} (h : x < 18446744073709551616) : IntKind.i64.wrap (x : Int) = sgz x := by
  rw [IntKind.wrap_i64]
  unfold sgz
  split <;> omega

set_option maxRecDepth 100000 in
set_option maxHeartbeats 2000000 in
theorem number_any (R : Nat) (bs : List Nat) (w : World) (h : RdW w R bs) : Calls Try.prog 16 #[.pointer (some ⟨R, 0, none⟩)] w (NbE R w (rdI bs)) := by
  obtain ⟨t, ht⟩ : ∃ t, t = rdA bs 0 0 := ⟨_, rfl⟩
  rw [rdI_sgo, ← ht]
  have HR := hid h
  have HT := hid ht
  clear h ht
  go_enter Try.func16, Try.ntmps16
  go_wp2_with fail
  go_loopw [3, 4, 5] (fun nv sv _ wr => ∃ (a s : Nat) (bs' : List Nat), s ≤ 63 ∧ a < 2 ^ s ∧ nv = .int .u64 (a : Int) ∧ sv = .int .i64 (s : Int) ∧ Hid (s % 7 = 0 ∧ t = rdA bs' s a ∧ RdW wr R bs' ∧ w.grownBy wr (some R) ∧ bs'.length ≤ bs.length)) (fun _ sv _ _ => 70 - (intOf sv).toNat)
  case atStart => exact ⟨0, 0, bs, by decide, by decide, rfl, rfl, rfl, HT.out, HR.out, gb_refl _ _, Nat.le_refl _⟩
  case round =>
    obtain ⟨a, s, bs', hs, ha, rfl, rfl, hI⟩ := hrel
    cases hbs : bs' with
    | nil =>
      subst hbs
      have HO := hid (one_none R wr hI.out.2.2.1)
      have HE : Hid (t = none ∧ w.grownBy wr (some R)) := ⟨hI.out.2.1, hI.out.2.2.2.1⟩
      clear hI
      go_wp2_with fail
      refine HO.out.mono ?_
      rintro e w1 ⟨rfl, rfl⟩
      exact ⟨rfl, HE.out.2, by rw [HE.out.1]; rfl⟩
    | cons b r =>
      subst hbs
      have hb : b < 256 := by
        obtain ⟨_, _, _, _, hl, _⟩ := hI.out.2.2.1
        exact hl b (by simp)
      have HO := hid (one_some R b r wr hI.out.2.2.1)
      have HS : Hid (s % 7 = 0 ∧ t = rdA (b :: r) s a ∧ w.grownBy wr (some R) ∧ r.length ≤ bs.length) := ⟨hI.out.1, hI.out.2.1, hI.out.2.2.2.1, by have := hI.out.2.2.2.2; simp at this; omega⟩
      clear hI
      go_wp2_with fail
      refine HO.out.mono ?_
      rintro e w1 ⟨rfl, h1, hg1⟩
      have H1 := hid h1
      have HG1 : Hid (w.grownBy w1 (some R)) := gb_trans HS.out.2.2.1 hg1
      clear h1 hg1 HO
      by_cases hA : s < 63 ∨ b ≤ 1
      · skip
        obtain ⟨A, hAE⟩ : ∃ A, A = a + b % 128 * 2 ^ s := ⟨_, rfl⟩
        have HAE := hid hAE
        have hlt64 : A < 18446744073709551616 := by
          rw [hAE]
          by_cases h : s = 63
          · subst h
            have h1 : b % 128 ≤ 1 := by omega
            have := Nat.mul_le_mul_right (2 ^ 63) h1
            omega
          · have hp : 2 ^ s ≤ 2 ^ 56 := Nat.pow_le_pow_right (by decide) (by have := HS.out.1; omega)
            have h1 : b % 128 ≤ 127 := by omega
            have := Nat.mul_le_mul h1 hp
            omega
        have hor : bits BinOp.or IntKind.u64 (a : Int) (IntKind.u64.wrap ((b : Int) % 128 * 2 ^ s)) = (A : Int) := by
          have := or_shift a (b % 128) s ha (by rw [← hAE]; exact hlt64)
          rw [hAE, ← this]
          simp
        have HSG : Hid (IntKind.i64.wrap (A : Int) = sgz A) := wrap_sgz hlt64
        clear hAE
        by_cases h63 : (s : Int) < 63
        · skip
          have HM := hid (must_yes w1)
          go_wp2_with fail
          refine HM.out.mono ?_
          rintro e w2 ⟨rfl, hw⟩
          have hwx := hw.symm
          subst hwx
          clear hw HM
          by_cases h128 : b < 128
          · skip
            have hb7 : (b : Int) < 128 := by omega
            by_cases h0 : 0 < b
            · have hb0 : (0 : Int) < (b : Int) := by omega
              have HSS : Hid (t = some (A, r)) := by unfold Hid; rw [HS.out.2.1]; unfold rdA; rw [if_pos hA, if_pos h128, if_pos (Or.inl h0), HAE.out]
              have HM := hid (must_yes w1)
              go_wp2_with fail
              refine HM.out.mono ?_
              rintro e w2 ⟨rfl, hw⟩
              have hwx := hw.symm
              subst hwx
              clear hw HM
              have hsg : IntKind.i64.wrap (A : Int) = sgz A := HSG.out
              go_wp2_with fail
              go_ret
              refine ⟨HG1.out, ?_⟩
              rw [HSS.out]
              exact ⟨rfl, H1.out⟩
            · have hb0 : ¬ (0 : Int) < (b : Int) := by omega
              by_cases hs0 : s = 0
              · skip
                have hs2 : ((s : Int) == 0) = true := by simp; omega
                have HSS : Hid (t = some (A, r)) := by unfold Hid; rw [HS.out.2.1]; unfold rdA; rw [if_pos hA, if_pos h128, if_pos (Or.inr hs0), HAE.out]
                clear hs0
                have HM := hid (must_yes w1)
                go_wp2_with fail
                refine HM.out.mono ?_
                rintro e w2 ⟨rfl, hw⟩
                have hwx := hw.symm
                subst hwx
                clear hw HM
                have hsg : IntKind.i64.wrap (A : Int) = sgz A := HSG.out
                go_wp2_with fail
                go_ret
                refine ⟨HG1.out, ?_⟩
                rw [HSS.out]
                exact ⟨rfl, H1.out⟩
              · have hs1 : ¬ (s : Int) = 0 := by omega
                have hs2 : ((s : Int) == 0) = false := by simp; omega
                have HM := hid (must_no w1)
                go_wp2_with fail
                refine HM.out.mono ?_
                rintro e w2 ⟨rfl, rfl⟩
                refine ⟨rfl, HG1.out, ?_⟩
                rw [HS.out.2.1]
                unfold rdA
                rw [if_pos hA, if_pos h128, if_neg (by omega)]
                rfl
          · have hb7 : ¬ (b : Int) < 128 := by omega
            have hks : IntKind.i64.wrap ((s : Int) + 7) = (s : Int) + 7 := by rw [IntKind.wrap_i64]; omega
            have HE : Hid ((s + 7) % 7 = 0 ∧ t = rdA r (s + 7) A ∧ RdW w1 R r ∧ w.grownBy w1 (some R) ∧ r.length ≤ bs.length) := by
              refine ⟨by have := HS.out.1; omega, ?_, H1.out, HG1.out, HS.out.2.2.2⟩
              rw [HS.out.2.1]
              conv => lhs; unfold rdA
              rw [if_pos hA, if_neg h128, ← HAE.out]
            have hA2 : A < 2 ^ (s + 7) := by
              have h1 : b % 128 ≤ 127 := by omega
              have := Nat.mul_le_mul_right (2 ^ s) h1
              have h2 : 2 ^ (s + 7) = 128 * 2 ^ s := by rw [Nat.pow_add, Nat.mul_comm]
              rw [HAE.out, h2]
              omega
            have hs7 : s + 7 ≤ 63 := by have := HS.out.1; omega
            go_wp2_with fail
            go_roundw
            case rel => exact ⟨A, s + 7, r, hs7, hA2, rfl, by go_num, HE⟩
            case measure => simp [intOf]; omega
        · have hb1 : (b : Int) ≤ 1 := by omega
          have h128 : b < 128 := by omega
          have HM := hid (must_yes w1)
          go_wp2_with fail
          refine HM.out.mono ?_
          rintro e w2 ⟨rfl, hw⟩
          have hwx := hw.symm
          subst hwx
          clear hw HM
          have hb7 : (b : Int) < 128 := by omega
          by_cases h0 : 0 < b
          · have hb0 : (0 : Int) < (b : Int) := by omega
            have HSS : Hid (t = some (A, r)) := by unfold Hid; rw [HS.out.2.1]; unfold rdA; rw [if_pos hA, if_pos h128, if_pos (Or.inl h0), HAE.out]
            have HM := hid (must_yes w1)
            go_wp2_with fail
            refine HM.out.mono ?_
            rintro e w2 ⟨rfl, hw⟩
            have hwx := hw.symm
            subst hwx
            clear hw HM
            have hsg : IntKind.i64.wrap (A : Int) = sgz A := HSG.out
            go_wp2_with fail
            go_ret
            refine ⟨HG1.out, ?_⟩
            rw [HSS.out]
            exact ⟨rfl, H1.out⟩
          · have hb0 : ¬ (0 : Int) < (b : Int) := by omega
            by_cases hs0 : s = 0
            · skip
              have hs2 : ((s : Int) == 0) = true := by simp; omega
              have HSS : Hid (t = some (A, r)) := by unfold Hid; rw [HS.out.2.1]; unfold rdA; rw [if_pos hA, if_pos h128, if_pos (Or.inr hs0), HAE.out]
              clear hs0
              have HM := hid (must_yes w1)
              go_wp2_with fail
              refine HM.out.mono ?_
              rintro e w2 ⟨rfl, hw⟩
              have hwx := hw.symm
              subst hwx
              clear hw HM
              have hsg : IntKind.i64.wrap (A : Int) = sgz A := HSG.out
              go_wp2_with fail
              go_ret
              refine ⟨HG1.out, ?_⟩
              rw [HSS.out]
              exact ⟨rfl, H1.out⟩
            · have hs1 : ¬ (s : Int) = 0 := by omega
              have hs2 : ((s : Int) == 0) = false := by simp; omega
              have HM := hid (must_no w1)
              go_wp2_with fail
              refine HM.out.mono ?_
              rintro e w2 ⟨rfl, rfl⟩
              refine ⟨rfl, HG1.out, ?_⟩
              rw [HS.out.2.1]
              unfold rdA
              rw [if_pos hA, if_pos h128, if_neg (by omega)]
              rfl
      · have h63 : ¬ (s : Int) < 63 := by omega
        have hb1 : ¬ (b : Int) ≤ 1 := by omega
        have hd1 : decide ((s : Int) < 63) = false := decide_eq_false h63
        have hd2 : decide ((b : Int) ≤ 1) = false := decide_eq_false hb1
        have HM := hid (must_no w1)
        go_wp2_with fail
        refine HM.out.mono ?_
        rintro e w2 ⟨rfl, rfl⟩
        refine ⟨rfl, HG1.out, ?_⟩
        rw [HS.out.2.1]
        unfold rdA
        rw [if_neg hA]
        rfl

end Go.Proofs.Ytcajofdmadpmoaa
