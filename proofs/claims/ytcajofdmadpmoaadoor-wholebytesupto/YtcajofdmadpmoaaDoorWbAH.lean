/- Package whole: bytes in memory, the reader; must, one. Package whole: a number read. Package whole: lists of numbers read. -/
import Derived.Test.YtcajofdmadpmoaaDoorWbAE
import Derived.Test.YtcajofdmadpmoaaDoorFolL
namespace Go.Proofs.YtcajofdmadpmoaaDoor
open Go.RowKit

def bat (bs : List Nat) (k : Nat) : Nat := bs.getD k 0
/-- bytes in memory, below a block -/
structure ByR (N0 : Nat) (w : World) (a : Option Addr) (c : Nat) (bs : List Nat) : Prop where
  row : ∀ k, k < bs.length → ∃ b o, a = some ⟨b, o, none⟩ ∧ b < N0 ∧ w.cell? ⟨b, o + k, none⟩ = some (.int .u8 (bat bs k : Int))
  room : bs.length ≤ c
  nil : a = none → c = 0
theorem ByR.blocks {N0 : Nat} {w w' : World} {a : Option Addr} {c : Nat} {bs : List Nat} (h : ByR N0 w a c bs) (e : ∀ b, b < N0 → w'.heap[b]? = w.heap[b]?) : ByR N0 w' a c bs :=
  ⟨fun k hk => by
    obtain ⟨b, o, h1, h2, h3⟩ := h.row k hk
    exact ⟨b, o, h1, h2, (World.cell?_of_block (w := w) (a := ⟨b, o + k, none⟩) (e b h2)).trans h3⟩, h.room, h.nil⟩
theorem ByR.mono {N0 N1 : Nat} {w : World} {a : Option Addr} {c : Nat} {bs : List Nat} (h : ByR N0 w a c bs) (e : N0 ≤ N1) : ByR N1 w a c bs :=
  ⟨fun k hk => by
    obtain ⟨b, o, h1, h2, h3⟩ := h.row k hk
    exact ⟨b, o, h1, by omega, h3⟩, h.room, h.nil⟩
/-- the reader, with what lies ahead -/
def RdW (w : World) (R : Nat) (bs : List Nat) : Prop := ∃ a c, w.heap[R]? = some (.cells #[.slice a bs.length c] 59 (0, 0)) ∧ ByR R w a c bs ∧ (∀ b, b ∈ bs → b < 256) ∧ bs.length ≤ 16777216
theorem RdW.lt {w : World} {R : Nat} {bs : List Nat} (h : RdW w R bs) : R < w.heap.size := by
  obtain ⟨_, _, h, _⟩ := h
  exact (Array.getElem?_eq_some_iff.1 h).1
theorem RdW.blocks {w w' : World} {R : Nat} {bs : List Nat} (h : RdW w R bs) (e : ∀ b, b ≤ R → w'.heap[b]? = w.heap[b]?) : RdW w' R bs := by
  obtain ⟨a, c, h1, h2, h3⟩ := h
  exact ⟨a, c, (e R (Nat.le_refl _)).trans h1, h2.blocks (fun b hb => e b (by omega)), h3⟩
theorem RdW.below {w w' : World} {R : Nat} {bs : List Nat} (h : RdW w R bs) (e : Below w.heap.size w w') : RdW w' R bs :=
  h.blocks (fun b hb => e.block b (by have := h.lt; omega))
/-- a step of the reader leaves lists -/
theorem rd_ko {w w' : World} {R : Nat} {bs : List Nat} (h : RdW w R bs) (e : w.grownBy w' (some R)) : KO w w' := by
  obtain ⟨a, c, h1, _⟩ := h
  exact KO.oth h1 (by decide) (by decide) (by decide) e.size (fun b hb hr => gb_blk e hb hr)
/-- bytes are none of a voucher -/
def pncW : Ending := .panicked [{ v := .iface 55 (.agg #[]), recovered := false }]

theorem must_yes (w : World) : Calls Tryd.prog 21 #[.bool true] w fun e w' => e = .returned (.tuple #[]) ∧ w' = w := by
  go_enter Tryd.func21, Tryd.ntmps21
  go_wp2_with fail
  go_end0
  exact ⟨rfl, rfl⟩
theorem must_no (w : World) : Calls Tryd.prog 21 #[.bool false] w fun e w' => e = pncW ∧ w' = w := by
  go_enter Tryd.func21, Tryd.ntmps21
  go_wp2_with fail
  exact ⟨rfl, rfl, rfl⟩

set_option maxRecDepth 100000 in
set_option maxHeartbeats 1000000 in
theorem one_none (R : Nat) (w : World) (h : RdW w R []) : Calls Tryd.prog 40 #[.pointer (some ⟨R, 0, none⟩)] w fun e w' => e = pncW ∧ w' = w := by
  obtain ⟨a, c, h1, _⟩ := h
  have c0 : w.cell? ⟨R, 0, none⟩ = some (.slice a 0 c) := by simp [World.cell?, h1]
  have HM := hid (must_no w)
  clear h1
  go_enter Tryd.func40, Tryd.ntmps40
  go_wp2_with fail
  refine HM.out.mono ?_
  rintro e w' ⟨rfl, rfl⟩
  exact ⟨rfl, rfl, rfl⟩
set_option maxRecDepth 100000 in
set_option maxHeartbeats 1000000 in
theorem one_some (R b : Nat) (r : List Nat) (w : World) (h : RdW w R (b :: r)) : Calls Tryd.prog 40 #[.pointer (some ⟨R, 0, none⟩)] w fun e w' => e = .returned (.int .u8 (b : Int)) ∧ RdW w' R r ∧ w.grownBy w' (some R) := by
  obtain ⟨a, c, h1, hB, hl, hs⟩ := h
  obtain ⟨B, o, rfl, hb2, hb3⟩ := hB.row 0 (by simp)
  rw [Nat.add_zero] at hb3
  have hb4 : w.cell? ⟨B, o, none⟩ = some (.int .u8 (b : Int)) := hb3
  obtain ⟨n, hn⟩ : ∃ n, n = r.length := ⟨_, rfl⟩
  have hroom : n + 1 ≤ c := by rw [hn]; exact hB.room
  have c0 : w.cell? ⟨R, 0, none⟩ = some (.slice (some ⟨B, o, none⟩) (n + 1) c) := by rw [hn]; simp [World.cell?, h1]
  have f0 : w.frozen? ⟨R, 0, none⟩ = false := by simp [World.frozen?, h1]
  have HM := hid (must_yes w)
  have HE : Hid (∀ A1 : Option Addr, (c = 1 → A1 = some ⟨B, o, none⟩) → (¬ c = 1 → A1 = some ⟨B, o + 1, none⟩) → RdW (w.setCell ⟨R, 0, none⟩ (.slice A1 n (c - 1))) R r ∧ w.grownBy (w.setCell ⟨R, 0, none⟩ (.slice A1 n (c - 1))) (some R)) := fun A1 hy hz => by
    refine ⟨⟨A1, c - 1, ?_, ⟨fun k hk => ?_, by omega, fun e => ?_⟩, fun x hx => hl x (by simp [hx]), by simp at hs; omega⟩, gb_setCell (gb_refl _ _) 0 _⟩
    · rw [← hn]
      have e1 : w.heap[R]? = some (.cells #[.slice (some ⟨B, o, none⟩) (n + 1) c] 59 (0, 0)) := by rw [h1, hn]; rfl
      simp [World.setCell, Array.getElem?_modify, e1]
    · obtain ⟨B', o', e1, e2, e3⟩ := hB.row (k + 1) (by simp; omega)
      injection e1 with e1
      injection e1 with e4 e5
      subst e4 e5
      refine ⟨B, o + 1, hz (by omega), e2, ?_⟩
      rw [show o + 1 + k = o + (k + 1) from by omega]
      exact (World.cell?_of_block (w := w) (a := ⟨B, o + (k + 1), none⟩) (Below.heap_setCell _ _ _ _ (by show B ≠ R; omega))).trans e3
    · by_cases hc : c = 1
      · rw [hy hc] at e; cases e
      · rw [hz hc] at e; cases e
  have hc1 : (1 : Int) ≤ (n : Int) + 1 := by omega
  have hc2 : (1 : Int) ≤ (c : Int) := by omega
  have hgt : (0 : Int) < (n : Int) + 1 := by omega
  clear h1 hB hl hs hb3 hn
  go_enter Tryd.func40, Tryd.ntmps40
  go_wp2_with fail
  refine HM.out.mono ?_
  rintro e w' ⟨rfl, hw⟩
  have hwx := hw.symm
  subst hwx
  clear hw HM
  by_cases hc : c = 1
  · subst hc
    obtain rfl : n = 0 := by omega
    have h := HE.out _ (fun _ => rfl) (fun e => absurd rfl e)
    have HX := hid h
    clear h HE
    go_wp2_with fail
    go_ret
    exact ⟨rfl, HX.out.1, HX.out.2⟩
  · go_wp2_with fail
    go_ret
    exact ⟨rfl, (HE.out _ (fun e => absurd e hc) (fun _ => rfl)).1, (HE.out _ (fun e => absurd e hc) (fun _ => rfl)).2⟩

end Go.Proofs.YtcajofdmadpmoaaDoor

namespace Go.Proofs.YtcajofdmadpmoaaDoor
open Go.RowKit

/-- how the reading of a number ends -/
def NbE (R : Nat) (w : World) (o : Option (Int × List Nat)) (e : Ending) (w' : World) : Prop := w.grownBy w' (some R) ∧ match o with
  | some (n, r) => e = .returned (.int .i64 n) ∧ RdW w' R r
  | none => e = pncW

/-- with its sign -/
def sgo : Option (Nat × List Nat) → Option (Int × List Nat)
  | some (x, r) => some (sgz x, r)
  | none => none
theorem rdI_sgo (bs : List Nat) : rdI bs = sgo (rdA bs 0 0) := by
  unfold rdI sgo
  cases rdA bs 0 0 <;> rfl

theorem or_shift (a c s : Nat) (ha : a < 2 ^ s) (hlt : a + c * 2 ^ s < 18446744073709551616) : bits BinOp.or IntKind.u64 (a : Int) (IntKind.u64.wrap ((c : Int) * 2 ^ s)) = ((a + c * 2 ^ s : Nat) : Int) := by
  have e1 : (c : Int) * 2 ^ s = ((c * 2 ^ s : Nat) : Int) := by simp
  have e2 : IntKind.u64.wrap ((c * 2 ^ s : Nat) : Int) = ((c * 2 ^ s : Nat) : Int) := by rw [IntKind.wrap_u64]; omega
  rw [e1, e2]
  have key : (BitVec.ofInt 64 (a : Int) ||| BitVec.ofInt 64 ((c * 2 ^ s : Nat) : Int)).toNat = a + c * 2 ^ s := by
    rw [BitVec.toNat_or, BitVec.toNat_ofInt, BitVec.toNat_ofInt]
    have h1 : ((a : Int) % ((2 ^ 64 : Nat) : Int)).toNat = a := by omega
    have h2 : (((c * 2 ^ s : Nat) : Int) % ((2 ^ 64 : Nat) : Int)).toNat = c * 2 ^ s := by omega
    rw [h1, h2, Nat.or_comm, ← Nat.shiftLeft_eq, ← Nat.shiftLeft_add_eq_or_of_lt ha, Nat.add_comm]
  show IntKind.u64.wrap (((BitVec.ofInt 64 (a : Int) ||| BitVec.ofInt 64 ((c * 2 ^ s : Nat) : Int)).toNat : Nat) : Int) = _
  rw [key, IntKind.wrap_u64]
  omega
theorem wrap_sgz {x : Nat} (h : x < 18446744073709551616) : IntKind.i64.wrap (x : Int) = sgz x := by
  rw [IntKind.wrap_i64]
  unfold sgz
  split <;> omega

set_option maxRecDepth 100000 in
set_option maxHeartbeats 2000000 in
theorem number_any (R : Nat) (bs : List Nat) (w : World) (h : RdW w R bs) : Calls Tryd.prog 33 #[.pointer (some ⟨R, 0, none⟩)] w (NbE R w (rdI bs)) := by
  obtain ⟨t, ht⟩ : ∃ t, t = rdA bs 0 0 := ⟨_, rfl⟩
  rw [rdI_sgo, ← ht]
  have HR := hid h
  have HT := hid ht
  clear h ht
  go_enter Tryd.func33, Tryd.ntmps33
  go_wp2_with fail
  go_loopw [3, 4, 5] (fun nv sv _ wr => ∃ (a s : Nat) (bs' : List Nat), s ≤ 63 ∧ a < 2 ^ s ∧ nv = .int .u64 (a : Int) ∧ sv = .int .i64 (s : Int) ∧ Hid (s % 7 = 0 ∧ t = rdA bs' s a ∧ RdW wr R bs' ∧ w.grownBy wr (some R) ∧ bs'.length ≤ bs.length)) (fun _ sv _ _ => 70 - (intOf sv).toNat)
  case atStart => exact ⟨0, 0, bs, by decide, by decide, rfl, rfl, rfl, HT.out, HR.out, gb_refl _ _, Nat.le_refl _⟩
  case round =>
    obtain ⟨a, s, bs', hs, ha, rfl, rfl, hI⟩ := hrel
    cases hbs : bs' with
    | nil =>
      subst hbs
      have HO := hid (one_none R wr hI.out.2.2.1)
      have HE : Hid (t = none ∧ w.grownBy wr (some R)) := ⟨hI.out.2.1, hI.out.2.2.2.1⟩
      clear hI
      go_wp2_with fail
      refine HO.out.mono ?_
      rintro e w1 ⟨rfl, rfl⟩
      exact ⟨rfl, HE.out.2, by rw [HE.out.1]; rfl⟩
    | cons b r =>
      subst hbs
      have hb : b < 256 := by
        obtain ⟨_, _, _, _, hl, _⟩ := hI.out.2.2.1
        exact hl b (by simp)
      have HO := hid (one_some R b r wr hI.out.2.2.1)
      have HS : Hid (s % 7 = 0 ∧ t = rdA (b :: r) s a ∧ w.grownBy wr (some R) ∧ r.length ≤ bs.length) := ⟨hI.out.1, hI.out.2.1, hI.out.2.2.2.1, by have := hI.out.2.2.2.2; simp at this; omega⟩
      clear hI
      go_wp2_with fail
      refine HO.out.mono ?_
      rintro e w1 ⟨rfl, h1, hg1⟩
      have H1 := hid h1
      have HG1 : Hid (w.grownBy w1 (some R)) := gb_trans HS.out.2.2.1 hg1
      clear h1 hg1 HO
      by_cases hA : s < 63 ∨ b ≤ 1
      · skip
        obtain ⟨A, hAE⟩ : ∃ A, A = a + b % 128 * 2 ^ s := ⟨_, rfl⟩
        have HAE := hid hAE
        have hlt64 : A < 18446744073709551616 := by
          rw [hAE]
          by_cases h : s = 63
          · subst h
            have h1 : b % 128 ≤ 1 := by omega
            have := Nat.mul_le_mul_right (2 ^ 63) h1
            omega
          · have hp : 2 ^ s ≤ 2 ^ 56 := Nat.pow_le_pow_right (by decide) (by have := HS.out.1; omega)
            have h1 : b % 128 ≤ 127 := by omega
            have := Nat.mul_le_mul h1 hp
            omega
        have hor : bits BinOp.or IntKind.u64 (a : Int) (IntKind.u64.wrap ((b : Int) % 128 * 2 ^ s)) = (A : Int) := by
          have := or_shift a (b % 128) s ha (by rw [← hAE]; exact hlt64)
          rw [hAE, ← this]
          simp
        have HSG : Hid (IntKind.i64.wrap (A : Int) = sgz A) := wrap_sgz hlt64
        clear hAE
        by_cases h63 : (s : Int) < 63
        · skip
          have HM := hid (must_yes w1)
          go_wp2_with fail
          refine HM.out.mono ?_
          rintro e w2 ⟨rfl, hw⟩
          have hwx := hw.symm
          subst hwx
          clear hw HM
          by_cases h128 : b < 128
          · skip
            have hb7 : (b : Int) < 128 := by omega
            by_cases h0 : 0 < b
            · have hb0 : (0 : Int) < (b : Int) := by omega
              have HSS : Hid (t = some (A, r)) := by unfold Hid; rw [HS.out.2.1]; unfold rdA; rw [if_pos hA, if_pos h128, if_pos (Or.inl h0), HAE.out]
              have HM := hid (must_yes w1)
              go_wp2_with fail
              refine HM.out.mono ?_
              rintro e w2 ⟨rfl, hw⟩
              have hwx := hw.symm
              subst hwx
              clear hw HM
              have hsg : IntKind.i64.wrap (A : Int) = sgz A := HSG.out
              go_wp2_with fail
              go_ret
              refine ⟨HG1.out, ?_⟩
              rw [HSS.out]
              exact ⟨rfl, H1.out⟩
            · have hb0 : ¬ (0 : Int) < (b : Int) := by omega
              by_cases hs0 : s = 0
              · skip
                have hs2 : ((s : Int) == 0) = true := by simp; omega
                have HSS : Hid (t = some (A, r)) := by unfold Hid; rw [HS.out.2.1]; unfold rdA; rw [if_pos hA, if_pos h128, if_pos (Or.inr hs0), HAE.out]
                clear hs0
                have HM := hid (must_yes w1)
                go_wp2_with fail
                refine HM.out.mono ?_
                rintro e w2 ⟨rfl, hw⟩
                have hwx := hw.symm
                subst hwx
                clear hw HM
                have hsg : IntKind.i64.wrap (A : Int) = sgz A := HSG.out
                go_wp2_with fail
                go_ret
                refine ⟨HG1.out, ?_⟩
                rw [HSS.out]
                exact ⟨rfl, H1.out⟩
              · have hs1 : ¬ (s : Int) = 0 := by omega
                have hs2 : ((s : Int) == 0) = false := by simp; omega
                have HM := hid (must_no w1)
                go_wp2_with fail
                refine HM.out.mono ?_
                rintro e w2 ⟨rfl, rfl⟩
                refine ⟨rfl, HG1.out, ?_⟩
                rw [HS.out.2.1]
                unfold rdA
                rw [if_pos hA, if_pos h128, if_neg (by omega)]
                rfl
          · have hb7 : ¬ (b : Int) < 128 := by omega
            have hks : IntKind.i64.wrap ((s : Int) + 7) = (s : Int) + 7 := by rw [IntKind.wrap_i64]; omega
            have HE : Hid ((s + 7) % 7 = 0 ∧ t = rdA r (s + 7) A ∧ RdW w1 R r ∧ w.grownBy w1 (some R) ∧ r.length ≤ bs.length) := by
              refine ⟨by have := HS.out.1; omega, ?_, H1.out, HG1.out, HS.out.2.2.2⟩
              rw [HS.out.2.1]
              conv => lhs; unfold rdA
              rw [if_pos hA, if_neg h128, ← HAE.out]
            have hA2 : A < 2 ^ (s + 7) := by
              have h1 : b % 128 ≤ 127 := by omega
              have := Nat.mul_le_mul_right (2 ^ s) h1
              have h2 : 2 ^ (s + 7) = 128 * 2 ^ s := by rw [Nat.pow_add, Nat.mul_comm]
              rw [HAE.out, h2]
              omega
            have hs7 : s + 7 ≤ 63 := by have := HS.out.1; omega
            go_wp2_with fail
            go_roundw
            case rel => exact ⟨A, s + 7, r, hs7, hA2, rfl, by go_num, HE⟩
            case measure => simp [intOf]; omega
        · have hb1 : (b : Int) ≤ 1 := by omega
          have h128 : b < 128 := by omega
          have HM := hid (must_yes w1)
          go_wp2_with fail
          refine HM.out.mono ?_
          rintro e w2 ⟨rfl, hw⟩
          have hwx := hw.symm
          subst hwx
          clear hw HM
          have hb7 : (b : Int) < 128 := by omega
          by_cases h0 : 0 < b
          · have hb0 : (0 : Int) < (b : Int) := by omega
            have HSS : Hid (t = some (A, r)) := by unfold Hid; rw [HS.out.2.1]; unfold rdA; rw [if_pos hA, if_pos h128, if_pos (Or.inl h0), HAE.out]
            have HM := hid (must_yes w1)
            go_wp2_with fail
            refine HM.out.mono ?_
            rintro e w2 ⟨rfl, hw⟩
            have hwx := hw.symm
            subst hwx
            clear hw HM
            have hsg : IntKind.i64.wrap (A : Int) = sgz A := HSG.out
            go_wp2_with fail
            go_ret
            refine ⟨HG1.out, ?_⟩
            rw [HSS.out]
            exact ⟨rfl, H1.out⟩
          · have hb0 : ¬ (0 : Int) < (b : Int) := by omega
            by_cases hs0 : s = 0
            · skip
              have hs2 : ((s : Int) == 0) = true := by simp; omega
              have HSS : Hid (t = some (A, r)) := by unfold Hid; rw [HS.out.2.1]; unfold rdA; rw [if_pos hA, if_pos h128, if_pos (Or.inr hs0), HAE.out]
              clear hs0
              have HM := hid (must_yes w1)
              go_wp2_with fail
              refine HM.out.mono ?_
              rintro e w2 ⟨rfl, hw⟩
              have hwx := hw.symm
              subst hwx
              clear hw HM
              have hsg : IntKind.i64.wrap (A : Int) = sgz A := HSG.out
              go_wp2_with fail
              go_ret
              refine ⟨HG1.out, ?_⟩
              rw [HSS.out]
              exact ⟨rfl, H1.out⟩
            · have hs1 : ¬ (s : Int) = 0 := by omega
              have hs2 : ((s : Int) == 0) = false := by simp; omega
              have HM := hid (must_no w1)
              go_wp2_with fail
              refine HM.out.mono ?_
              rintro e w2 ⟨rfl, rfl⟩
              refine ⟨rfl, HG1.out, ?_⟩
              rw [HS.out.2.1]
              unfold rdA
              rw [if_pos hA, if_pos h128, if_neg (by omega)]
              rfl
      · have h63 : ¬ (s : Int) < 63 := by omega
        have hb1 : ¬ (b : Int) ≤ 1 := by omega
        have hd1 : decide ((s : Int) < 63) = false := decide_eq_false h63
        have hd2 : decide ((b : Int) ≤ 1) = false := decide_eq_false hb1
        have HM := hid (must_no w1)
        go_wp2_with fail
        refine HM.out.mono ?_
        rintro e w2 ⟨rfl, rfl⟩
        refine ⟨rfl, HG1.out, ?_⟩
        rw [HS.out.2.1]
        unfold rdA
        rw [if_neg hA]
        rfl

end Go.Proofs.YtcajofdmadpmoaaDoor

namespace Go.Proofs.YtcajofdmadpmoaaDoor
open Go.RowKit

/-- how the reading of anything ends -/
def ReE {α : Type} (P : World → Value → α → Prop) (R : Nat) (w : World) (o : Option (α × List Nat)) (e : Ending) (w' : World) : Prop := w.grownBy w' (some R) ∧ match o with
  | some (x, r) => ∃ v, e = .returned v ∧ P w' v x ∧ RdW w' R r
  | none => e = pncW
theorem sli_of_owns {w : World} {base : Nat} {v : Value} {zs : List Int} (h : w.ownsRow base 3 1 v zs.length (zs.map (Value.int .i64))) : SlI w zs v := by
  obtain ⟨a, c, rfl, hl⟩ := lst_of_owns h
  refine ⟨a, c, rfl, hl, fun h0 => ?_⟩
  rcases h.2 with ⟨e, h1⟩ | ⟨g, cap, cur, e, _, hg, _⟩
  · omega
  · injection e with e1 _ _
    exact ⟨g, 0, cur, (0, 0), e1, hg⟩
/-- an own block that turns leaves the reader -/
theorem RdW.own {w w' : World} {R : Nat} {bs : List Nat} {ob : Option Nat} (h : RdW w R bs) (e : w.grownBy w' ob) (ho : ∀ k, ob = some k → R < k) : RdW w' R bs :=
  h.blocks (fun b hb => e.block b (by have := h.lt; omega) (fun e1 => by have := ho b e1.symm; omega))
/-- what has grown and then an own block that has turned -/
theorem gb_own {w w1 w2 : World} {R : Nat} {ob : Option Nat} (h : w.grownBy w1 (some R)) (e : w1.grownBy w2 ob) (ho : ∀ k, ob = some k → w.heap.size ≤ k) : w.grownBy w2 (some R) :=
  ⟨e.os.trans h.os, e.tape.trans h.tape, e.output.trans h.output, Nat.le_trans h.size e.size, fun b hb hr => (e.block b (by have := h.size; omega) (fun e1 => by have := ho b e1.symm; omega)).trans (h.block b hb hr)⟩
theorem rdL_num {α : Type} (p : Rdr α) {bs r : List Nat} {n : Int} (h : rdI bs = some (n, r)) : rdL p bs = if 0 ≤ n ∧ n ≤ (r.length : Int) then rdN p r n.toNat else none := by
  unfold rdL rdC
  rw [h]
  by_cases hc : 0 ≤ n ∧ n ≤ (r.length : Int)
  · simp only [if_pos hc]
  · simp only [if_neg hc]
theorem rdL_end {α : Type} (p : Rdr α) {bs : List Nat} (h : rdI bs = none) : rdL p bs = none := by
  unfold rdL rdC
  rw [h]
theorem rdI_le {w : World} {R : Nat} {bs r : List Nat} {n : Int} (h : RdW w R bs) (hc : rdI bs = some (n, r)) : r.length ≤ 16777216 := by
  obtain ⟨_, _, _, _, hb, hl⟩ := h
  have := rdI_back bs n r hb hc
  rw [this, List.length_append] at hl
  omega
/-- the world behind a list laid -/
theorem gb_alloc {w w1 : World} {R : Nat} (h : w.grownBy w1 (some R)) (o : Obj) : w.grownBy (w1.alloc o) (some R) := gb_trans h (gb_below ((Below.refl _ _).alloc (Nat.le_refl _) o))
/-- rows of one's own are no reader -/
theorem own_not {w : World} {base R n : Nat} {bs : List Nat} {v : Value} {xs : List Value} (h : w.ownsRow base 3 1 v n xs) (hR : RdW w R bs) : v.ownBlock = none ∨ v.ownBlock ≠ some R := by
  rcases h.2 with ⟨rfl, _⟩ | ⟨g, cap, cur, rfl, _, hg, _⟩
  · exact .inl rfl
  · refine .inr (fun e => ?_)
    injection e with e
    subst e
    obtain ⟨_, _, h1, _⟩ := hR
    rw [h1] at hg
    injection hg with hg
    injection hg with _ h3 _
    exact absurd h3 (by decide)

set_option maxRecDepth 100000 in
set_option maxHeartbeats 4000000 in
theorem readInts_any (R : Nat) (bs : List Nat) (w : World) (h : RdW w R bs) : Calls Tryd.prog 39 #[.pointer (some ⟨R, 0, none⟩), .func (.func 33) #[.pointer (some ⟨R, 0, none⟩)] #[]] w (ReE (fun w v l => SlI w l v) R w (rdL rdI bs)) := by
  obtain ⟨i0, hi, hz0, hz1, hz2⟩ := info_parts Tryd.infoInt
  have HN := hid (number_any R bs w h)
  have hRl := h.lt
  cases hc : rdI bs with
  | none =>
    rw [rdL_end rdI hc]
    rw [hc] at HN
    clear h hc
    go_enter Tryd.func39, Tryd.ntmps39
    go_wp2_with fail
    refine HN.out.mono ?_
    rintro e w1 ⟨hg1, rfl⟩
    exact ⟨rfl, hg1, rfl⟩
  | some nr =>
    obtain ⟨n, r⟩ := nr
    rw [rdL_num rdI hc]
    rw [hc] at HN
    have hrb : r.length ≤ 16777216 := rdI_le h hc
    clear h hc
    by_cases hok : 0 ≤ n ∧ n ≤ (r.length : Int)
    · rw [if_pos hok]
      obtain ⟨k, rfl⟩ := Int.eq_ofNat_of_zero_le hok.1
      have hkr : k ≤ r.length := by have := hok.2; omega
      have hk2 : (k : Int) ≤ (r.length : Int) := by omega
      have hk20 : k ≤ 16777216 := by omega
      rw [Int.toNat_natCast]
      clear hok
      obtain ⟨T, hT⟩ : ∃ T, T = rdN rdI r k := ⟨_, rfl⟩
      rw [← hT]
      have HT := hid hT
      clear hT
      go_enter Tryd.func39, Tryd.ntmps39
      go_wp2_with fail
      refine HN.out.mono ?_
      rintro e w1 ⟨hg1, rfl, h1⟩
      have H1 := hid h1
      have HG1 := hid hg1
      obtain ⟨a0, c0, h10, _⟩ := h1
      obtain ⟨nr, hnr⟩ : ∃ nr, nr = r.length := ⟨_, rfl⟩
      rw [← hnr] at hk2 h10
      have x0 : w1.cell? ⟨R, 0, none⟩ = some (.slice a0 nr c0) := by simp [World.cell?, h10]
      have HM := hid (must_yes w1)
      clear hg1 HN h10 hnr
      go_wp2_with fail
      refine HM.out.mono ?_
      rintro e w2 ⟨rfl, hw⟩
      have hwx := hw.symm
      subst hwx
      clear hw HM x0 hk2
      go_wp2_with fail
      go_loopw [6, 22] (fun lv0 iv wr => ∃ (i : Nat) (lv : Value), i ≤ k ∧ iv = .int .i64 (i : Int) ∧ lv = lv0 ∧ Hid (∃ (l : List Int) (r' : List Nat), rdN rdI r i = some (l, r') ∧ l.length = i ∧ wr.ownsRow w.heap.size 3 1 lv l.length (l.map (Value.int .i64)) ∧ RdW wr R r' ∧ w.grownBy wr (some R))) (fun _ iv _ => k - (intOf iv).toNat)
      case atStart => exact ⟨0, _, Nat.zero_le _, rfl, rfl, [], r, rfl, rfl, World.ownsRow_nil _ _ _ _, H1.out, HG1.out⟩
      case round =>
        obtain ⟨i, lv, hi', rfl, rfl, hI⟩ := hrel
        obtain ⟨l, r', e1, e2, e3, e4, e5⟩ := hI.out
        by_cases hlt : i < k
        · have hlt2 : (i : Int) < (k : Int) := by omega
          have hks : IntKind.i64.wrap ((i : Int) + 1) = (i : Int) + 1 := by rw [IntKind.wrap_i64]; omega
          have HO := hid (number_any R r' wr e4)
          cases hp : rdI r' with
          | none =>
            rw [hp] at HO
            have HE : Hid (T = none) := by
              unfold Hid
              rw [HT.out]
              refine rdN_none (i := i + 1) ?_ k (by omega)
              simp only [rdN, e1, hp]
            have HW := hid e5
            clear hI e1 e3 e4 e5 hp
            go_wp2_with fail
            refine HO.out.mono ?_
            rintro e w3 ⟨hg3, rfl⟩
            refine ⟨rfl, gb_trans HW.out hg3, ?_⟩
            rw [HE.out]
            rfl
          | some xr =>
            obtain ⟨x, r2⟩ := xr
            rw [hp] at HO
            have HS : Hid (rdN rdI r (i + 1) = some (l ++ [x], r2) ∧ l.length = i) := by
              refine ⟨?_, e2⟩
              simp only [rdN, e1, hp]
            have HW := hid e5
            have HOW := hid e3
            have HR4 := hid e4
            clear hI e1 e3 e4 e5 hp
            go_wp2_with fail
            refine HO.out.mono ?_
            rintro e w3 ⟨hg3, rfl, h3⟩
            have H3 := hid h3
            have HG3 := hid (gb_trans HW.out hg3)
            have hown := HOW.out.kept hg3 (own_not HOW.out HR4.out)
            have HOX := hid (hown.alloc (.cells #[.int .i64 x] 3))
            have HLE := hid HS.out.2
            clear h3 hg3 HO hown
            go_wp2_with (at_builtin; refine wpList_append_own _ rfl _ _ 22 rfl w.heap.size 3 i0 (.int .i64 0) 1 8 Tryd.underlying22 hi hz0 hz1 hz2 rfl (by decide) _ _ _ rfl HOX.out ⟨w3.heap.size, 0, none⟩ 1 1 [.int .i64 x] rfl rfl ?c1 ?c2 ?c3 ?c4 ?c5 ?_)
            case c1 =>
              intro j u hj
              match j, hj with
              | 0, hj => simp at hj; subst hj; simp [Addr.add]
            case c2 => intro u hu; simp at hu; subst hu; rfl
            case c3 => rw [HLE.out]; unfold maxLen; omega
            case c4 => rw [HLE.out]; omega
            case c5 => have := HG3.out.size; simp; omega
            intro v' w5 hown2 hgrow _
            have hown3 := owns_succ (by rw [HLE.out]; exact hown2)
            have holt : ∀ k', lv.ownBlock = some k' → w.heap.size ≤ k' := fun k' hk' => (HOX.out.lt k' hk').1
            have HE : Hid (∃ (l : List Int) (r' : List Nat), rdN rdI r (i + 1) = some (l, r') ∧ l.length = i + 1 ∧ w5.ownsRow w.heap.size 3 1 v' l.length (l.map (Value.int .i64)) ∧ RdW w5 R r' ∧ w.grownBy w5 (some R)) := ⟨l ++ [x], r2, HS.out.1, by rw [List.length_append, HS.out.2]; rfl, hown3, (H3.out.below ((Below.refl _ _).alloc (Nat.le_refl _) _)).own hgrow (fun k' hk' => by have := holt k' hk'; omega), gb_own (gb_alloc HG3.out _) hgrow holt⟩
            clear hown2 hown3 hgrow holt HOX HR4 HOW HW HS
            go_wp2_with fail
            go_roundw
            case rel => exact ⟨i + 1, _, by omega, by go_num, rfl, HE⟩
            case measure => simp [intOf]; omega
        · obtain rfl : i = k := by omega
          have hlt2 : ¬ (i : Int) < (i : Int) := by omega
          have HE : Hid (∃ l r', T = some (l, r') ∧ ((fun w v l => SlI w l v)) wr lv l ∧ RdW wr R r' ∧ w.grownBy wr (some R)) := ⟨l, r', by rw [HT.out]; exact e1, sli_of_owns e3, e4, e5⟩
          clear hI e1 e2 e3 e4 e5
          go_wp2_with fail
          go_ret
          obtain ⟨l, r', k1, k2, k3, k4⟩ := HE.out
          refine ⟨k4, ?_⟩
          rw [k1]
          exact ⟨_, rfl, k2, k3⟩
    · rw [if_neg hok]
      have hd : (decide (0 ≤ n) && decide (n ≤ (r.length : Int))) = false := by
        rw [Bool.and_eq_false_iff, decide_eq_false_iff_not, decide_eq_false_iff_not]
        omega
      have HM := hid (fun W => must_no W)
      by_cases h0 : 0 ≤ n
      · have hd2 : decide (n ≤ (r.length : Int)) = false := decide_eq_false (fun e => hok ⟨h0, e⟩)
        clear hok hd
        go_enter Tryd.func39, Tryd.ntmps39
        go_wp2_with fail
        refine HN.out.mono ?_
        rintro e w1 ⟨hg1, rfl, h1⟩
        have HG1 := hid hg1
        obtain ⟨a0, c0, h10, _⟩ := h1
        obtain ⟨nr, hnr⟩ : ∃ nr, nr = r.length := ⟨_, rfl⟩
        rw [← hnr] at hd2 h10
        have x0 : w1.cell? ⟨R, 0, none⟩ = some (.slice a0 nr c0) := by simp [World.cell?, h10]
        clear hg1 HN h10 hnr
        go_wp2_with fail
        refine (HM.out w1).mono ?_
        rintro e w2 ⟨rfl, rfl⟩
        exact ⟨rfl, HG1.out, rfl⟩
      · have hd2 : decide (0 ≤ n) = false := decide_eq_false h0
        clear hok hd
        go_enter Tryd.func39, Tryd.ntmps39
        go_wp2_with fail
        refine HN.out.mono ?_
        rintro e w1 ⟨hg1, rfl, h1⟩
        have HG1 := hid hg1
        clear hg1 HN h1
        go_wp2_with fail
        refine (HM.out w1).mono ?_
        rintro e w2 ⟨rfl, rfl⟩
        exact ⟨rfl, HG1.out, rfl⟩

end Go.Proofs.YtcajofdmadpmoaaDoor
