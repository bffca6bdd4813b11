/- Vouchers as bytes, plainly: what is written, what is read. attestref5.Check. -/
import Derived.Test.YtcajofdmadpmoaaDoorFolC
namespace Go.Proofs.YtcajofdmadpmoaaDoor
open Go.RowKit

/-- a number's bytes -/
def vby (x : Nat) : List Nat := if x < 128 then [x] else (x % 128 + 128) :: vby (x / 128)
termination_by x
decreasing_by omega
theorem vby_small {x : Nat} (h : x < 128) : vby x = [x] := by rw [vby, if_pos h]
theorem vby_big {x : Nat} (h : ¬ x < 128) : vby x = (x % 128 + 128) :: vby (x / 128) := by rw [vby, if_neg h]
/-- an int as a number without sign -/
def uzz (n : Int) : Nat := (n % 18446744073709551616).toNat
def vbI (n : Int) : List Nat := vby (uzz n)
def vbL (l : List Int) : List Nat := vby l.length ++ (l.map vbI).flatten
def vbR (rs : List (List Int)) : List Nat := vby rs.length ++ (rs.map vbL).flatten
def vbO (o : OnZ) : List Nat := vbL o.ps ++ vbR o.rows ++ vbR o.nodes
def vbOs (os : List OnZ) : List Nat := vby os.length ++ (os.map vbO).flatten
/-- a voucher -/
structure VoZ where
  main : List Int
  aux : List Int
  tries : Int
  roots : List (List Int)
  last : List Int
  opens : List OnZ
  rows : OnZ
  lst : OnZ
def vbV (v : VoZ) : List Nat := vbL v.main ++ vbL v.aux ++ vbI v.tries ++ vbR v.roots ++ vbL v.last ++ vbOs v.opens ++ vbO v.rows ++ vbO v.lst

/-- a number read -/
def rdA : List Nat → Nat → Nat → Option (Nat × List Nat)
  | [], _, _ => none
  | b :: r, s, a => if s < 63 ∨ b ≤ 1 then (if b < 128 then (if 0 < b ∨ s = 0 then some (a + b % 128 * 2 ^ s, r) else none) else rdA r (s + 7) (a + b % 128 * 2 ^ s)) else none
def sgz (x : Nat) : Int := if x < 9223372036854775808 then (x : Int) else (x : Int) - 18446744073709551616
abbrev Rdr (α : Type) := List Nat → Option (α × List Nat)
def rdI : Rdr Int := fun bs => match rdA bs 0 0 with
  | some (x, r) => some (sgz x, r)
  | none => none
def rdC : Rdr Nat := fun bs => match rdI bs with
  | some (n, r) => if 0 ≤ n ∧ n ≤ (r.length : Int) then some (n.toNat, r) else none
  | none => none
/-- so many, one behind the other -/
def rdN {α : Type} (p : Rdr α) (bs : List Nat) : Nat → Option (List α × List Nat)
  | 0 => some ([], bs)
  | k + 1 => match rdN p bs k with
    | some (l, r) => (match p r with
      | some (x, r') => some (l ++ [x], r')
      | none => none)
    | none => none
def rdL {α : Type} (p : Rdr α) : Rdr (List α) := fun bs => match rdC bs with
  | some (n, r) => rdN p r n
  | none => none
/-- one behind another -/
def rdT {α β : Type} (p : Rdr α) (q : Rdr β) : Rdr (α × β) := fun bs => match p bs with
  | some (x, r) => (match q r with
    | some (y, r') => some ((x, y), r')
    | none => none)
  | none => none
def rdO : Rdr OnZ := fun bs => match rdT (rdL rdI) (rdT (rdL (rdL rdI)) (rdL (rdL rdI))) bs with
  | some ((a, b, c), r) => some (⟨a, b, c⟩, r)
  | none => none
def rdV : Rdr VoZ := fun bs => match rdT (rdL rdI) (rdT (rdL rdI) (rdT rdI (rdT (rdL (rdL rdI)) (rdT (rdL rdI) (rdT (rdL rdO) (rdT rdO rdO)))))) bs with
  | some ((a, b, c, d, e, f, g, h), r) => some (⟨a, b, c, d, e, f, g, h⟩, r)
  | none => none

/-- what was read was written so -/
def Back {α : Type} (p : Rdr α) (e : α → List Nat) : Prop := ∀ bs x r, (∀ b, b ∈ bs → b < 256) → p bs = some (x, r) → bs = e x ++ r
theorem rdA_back : ∀ (bs : List Nat) (s a x : Nat) (r : List Nat), (∀ b, b ∈ bs → b < 256) → a < 2 ^ s → s ≤ 63 → s % 7 = 0 → rdA bs s a = some (x, r) → ∃ y, x = a + y * 2 ^ s ∧ bs = vby y ++ r ∧ (0 < s → 0 < y) ∧ x < 18446744073709551616
  | [], _, _, _, _, _, _, _, _, h => by simp [rdA] at h
  | b :: bs, s, a, x, r, hb, ha, hs, h7, h => by
    have hb0 := hb b (by simp)
    unfold rdA at h
    by_cases h1 : s < 63 ∨ b ≤ 1
    · rw [if_pos h1] at h
      by_cases h2 : b < 128
      · rw [if_pos h2] at h
        by_cases h3 : 0 < b ∨ s = 0
        · rw [if_pos h3] at h
          injection h with h
          injection h with e1 e2
          subst e1 e2
          have hm : b % 128 = b := Nat.mod_eq_of_lt h2
          refine ⟨b, by rw [hm], by rw [vby_small h2]; rfl, fun h0 => by omega, ?_⟩
          rw [hm]
          by_cases h63 : s = 63
          · subst h63
            have : b ≤ 1 := by omega
            have : b * 2 ^ 63 ≤ 1 * 2 ^ 63 := Nat.mul_le_mul_right _ this
            omega
          · have hp : 2 ^ s ≤ 2 ^ 56 := Nat.pow_le_pow_right (by decide) (by omega)
            have : b * 2 ^ s ≤ 127 * 2 ^ 56 := Nat.mul_le_mul (by omega) hp
            omega
        · rw [if_neg h3] at h
          cases h
      · rw [if_neg h2] at h
        have hs2 : s < 63 := by omega
        have hp : b % 128 * 2 ^ s ≤ 127 * 2 ^ s := Nat.mul_le_mul_right _ (by omega)
        have h128 : 2 ^ (s + 7) = 128 * 2 ^ s := by rw [Nat.pow_add, Nat.mul_comm]
        obtain ⟨y, e1, e2, e3, e4⟩ := rdA_back bs (s + 7) _ x r (fun c hc => hb c (by simp [hc])) (by rw [h128]; omega) (by omega) (by omega) h
        have hy := e3 (by omega)
        refine ⟨b % 128 + 128 * y, ?_, ?_, fun _ => by omega, e4⟩
        · rw [e1, h128, Nat.add_mul, Nat.add_assoc, ← Nat.mul_assoc, Nat.mul_comm y 128]
        · rw [vby_big (by omega), show (b % 128 + 128 * y) % 128 + 128 = b from by omega, show (b % 128 + 128 * y) / 128 = y from by omega, e2]
          rfl
    · rw [if_neg h1] at h
      cases h
theorem uzz_sgz {x : Nat} (h : x < 18446744073709551616) : uzz (sgz x) = x := by
  unfold uzz sgz
  split
  · omega
  · omega
theorem rdI_back : Back rdI vbI := fun bs x r hb h => by
  unfold rdI at h
  split at h
  · rename_i y r' e
    injection h with h
    injection h with e1 e2
    subst e1 e2
    obtain ⟨z, e1, e2, _, e4⟩ := rdA_back bs 0 0 y r' hb (by decide) (by decide) (by decide) e
    have : y = z := by rw [e1]; omega
    unfold vbI
    rw [uzz_sgz e4, this]
    exact e2
  · cases h
theorem uzz_nat {n : Nat} (h : n < 18446744073709551616) : uzz (n : Int) = n := by unfold uzz; omega
theorem sgz_nn {x : Nat} (h : 0 ≤ sgz x) (hx : x < 18446744073709551616) : sgz x = (x : Int) := by
  unfold sgz at h ⊢
  split at h <;> omega
theorem rdC_back : Back rdC vby := fun bs x r hb h => by
  unfold rdC at h
  split at h
  · rename_i y r' e
    by_cases hc : 0 ≤ y ∧ y ≤ (r'.length : Int)
    · rw [if_pos hc] at h
      injection h with h
      injection h with e1 e2
      subst e1 e2
      have h1 := rdI_back bs y r' hb e
      have hu : uzz y = y.toNat := by
        unfold rdI at e
        split at e
        · rename_i z r2 e2
          injection e with e
          injection e with e3 e4
          obtain ⟨z2, _, _, _, e5⟩ := rdA_back bs 0 0 z r2 hb (by decide) (by decide) (by decide) e2
          have e6 := sgz_nn (by omega) e5
          rw [← e3, uzz_sgz e5, e6]
          rfl
        · cases e
      unfold vbI at h1
      rw [hu] at h1
      exact h1
    · rw [if_neg hc] at h
      cases h
  · cases h
theorem all_app {l r : List Nat} (h : ∀ b, b ∈ l ++ r → b < 256) : ∀ b, b ∈ r → b < 256 := fun b hb => h b (List.mem_append_right _ hb)
theorem rdN_back {α : Type} {p : Rdr α} {e : α → List Nat} (hp : Back p e) (bs : List Nat) (hb : ∀ b, b ∈ bs → b < 256) : ∀ (k : Nat) (l : List α) (r : List Nat), rdN p bs k = some (l, r) → bs = (l.map e).flatten ++ r ∧ l.length = k
  | 0, l, r, h => by
    simp only [rdN] at h
    injection h with h
    injection h with e1 e2
    subst e1 e2
    exact ⟨by simp, rfl⟩
  | k + 1, l, r, h => by
    simp only [rdN] at h
    split at h
    · rename_i l' r' e1
      obtain ⟨i1, i2⟩ := rdN_back hp bs hb k l' r' e1
      split at h
      · rename_i x r2 e2
        injection h with h
        injection h with e3 e4
        subst e3 e4
        have := hp r' x r2 (by rw [i1] at hb; exact all_app hb) e2
        refine ⟨?_, by simp [i2]⟩
        rw [i1, this]
        simp
      · cases h
    · cases h
theorem rdL_back {α : Type} {p : Rdr α} {e : α → List Nat} (hp : Back p e) : Back (rdL p) (fun l => vby l.length ++ (l.map e).flatten) := fun bs x r hb h => by
  unfold rdL at h
  split at h
  · rename_i n r' e1
    have i1 := rdC_back bs n r' hb e1
    obtain ⟨i2, i3⟩ := rdN_back hp r' (by rw [i1] at hb; exact all_app hb) n x r h
    rw [i1]
    show vby n ++ r' = vby x.length ++ (x.map e).flatten ++ r
    rw [i3, List.append_assoc, ← i2]
  · cases h
theorem rdT_back {α β : Type} {p : Rdr α} {q : Rdr β} {e : α → List Nat} {f : β → List Nat} (hp : Back p e) (hq : Back q f) : Back (rdT p q) (fun x => e x.1 ++ f x.2) := fun bs x r hb h => by
  unfold rdT at h
  split at h
  · rename_i y r' e1
    have i1 := hp bs y r' hb e1
    split at h
    · rename_i z r2 e2
      injection h with h
      injection h with e3 e4
      subst e3 e4
      have i2 := hq r' z r2 (by rw [i1] at hb; exact all_app hb) e2
      show bs = e y ++ f z ++ r2
      rw [List.append_assoc, ← i2]
      exact i1
    · cases h
  · cases h
theorem rdO_back : Back rdO vbO := fun bs x r hb h => by
  unfold rdO at h
  split at h
  · rename_i a b c r' e1
    injection h with h
    injection h with e3 e4
    subst e3 e4
    have := rdT_back (rdL_back rdI_back) (rdT_back (rdL_back (rdL_back rdI_back)) (rdL_back (rdL_back rdI_back))) bs _ _ hb e1
    rw [this]
    simp only [vbO, vbL, vbR, List.append_assoc]
    rfl
  · cases h
theorem rdV_back : Back rdV vbV := fun bs x r hb h => by
  unfold rdV at h
  split at h
  · rename_i a b c d e f g i r' e1
    injection h with h
    injection h with e3 e4
    subst e3 e4
    have := rdT_back (rdL_back rdI_back) (rdT_back (rdL_back rdI_back) (rdT_back rdI_back (rdT_back (rdL_back (rdL_back rdI_back)) (rdT_back (rdL_back rdI_back) (rdT_back (rdL_back rdO_back) (rdT_back rdO_back rdO_back)))))) bs _ _ hb e1
    rw [this]
    simp only [vbV, vbL, vbR, vbOs, List.append_assoc]
    rfl
  · cases h
/-- what ends early ends so -/
theorem rdN_none {α : Type} {p : Rdr α} {bs : List Nat} {i : Nat} (h : rdN p bs i = none) : ∀ k, i ≤ k → rdN p bs k = none
  | 0, hk => by
    obtain rfl : i = 0 := by omega
    exact h
  | k + 1, hk => by
    by_cases e : i = k + 1
    · rw [← e]; exact h
    · simp only [rdN, rdN_none h k (by omega)]

end Go.Proofs.YtcajofdmadpmoaaDoor

namespace Go.Proofs.YtcajofdmadpmoaaDoor
open Go.RowKit

/-- a voucher's Openings fit -/
def FitsF5 (os : List OnZ) : Prop := ∀ k, k < os.length → (onat os k).ps.length ≤ 281474976710656 ∧ (onat os k).rows.length ≤ 281474976710656 ∧ (onat os k).nodes.length ≤ 281474976710656 ∧ FitsR (onat os k).rows ∧ FitsR (onat os k).nodes

end Go.Proofs.YtcajofdmadpmoaaDoor
