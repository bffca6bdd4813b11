/- plain.Told, attestsame.Error, attestref1.Prime and attestsame.Field by their contracts: of a prime that may be there is a field, of any other number there is none, and both sides say so. -/
import Derived.Test.YtidkhgplejglaacDoorAs
import Derived.Test.YtidkhgplejglaacDoorNew
namespace Go.Proofs.YtidkhgplejglaacDoor
open Go.RowKit

/-- package errors' own variable holds what its text lays -/
def Laid (w : World) : Prop := w.cell? ⟨0, 0, none⟩ = some (.iface 96 (.agg #[.pointer (some ⟨1, 37, none⟩)]))

theorem cell_lt {w : World} {a : Addr} {v : Value} (h : w.cell? a = some v) : a.block < w.heap.size := by
  rcases Nat.lt_or_ge a.block w.heap.size with g | g
  · exact g
  · simp [World.cell?, Array.getElem?_eq_none g] at h

theorem Laid.lt {w : World} (h : Laid w) : 0 < w.heap.size := cell_lt (a := ⟨0, 0, none⟩) h
theorem Laid.below {w w' : World} (h : Laid w) (hb : Below w.heap.size w w') : Laid w' := (hb.cell (p := ⟨0, 0, none⟩) h.lt).trans h

theorem told_nil (w : World) : Calls Tryd.prog 30 #[.nilIface] w fun e w' => e = .returned (.int .i64 0) ∧ w' = w := by
  go_enter Tryd.func30, Tryd.ntmps30
  go_wp2
  go_ret
  exact ⟨rfl, rfl⟩

set_option maxHeartbeats 400000 in
theorem told_hit (n : Int) (w : World) (hL : Laid w) :
    Calls Tryd.prog 30 #[.iface 61 (.int .i64 n)] w fun e w' => e = .returned (.int .i64 n) ∧ Below w.heap.size w w' := by
  have hlt := hL.lt
  have hg : Hid ((w.alloc (.cells #[.int .i64 0] 61)).cell? ⟨0, 0, none⟩ = some (.iface 96 (.agg #[.pointer (some ⟨1, 37, none⟩)]))) := by
    unfold Hid
    rw [World.cell?_alloc_lt _ _ ⟨0, 0, none⟩ hlt]; exact hL
  have ht : Hid ((w.alloc (.cells #[.int .i64 0] 61)).cell? ⟨w.heap.size, 0, none⟩ = some (.int .i64 0)) := by unfold Hid; simp
  have hf : Hid ((w.alloc (.cells #[.int .i64 0] 61)).frozen? ⟨w.heap.size, 0, none⟩ = false) := by unfold Hid; simp
  have has := hid (as_hit n ⟨w.heap.size, 0, none⟩ (.int .i64 0) _ hg.out ht.out hf.out)
  clear hg ht hf
  go_enter Tryd.func30, Tryd.ntmps30
  go_wp2_with fail
  refine has.out.mono ?_
  rintro e w' ⟨rfl, rfl⟩
  go_wp2_with fail
  go_ret
  refine ⟨rfl, ?_⟩
  exact (((((Below.refl _ _).alloc (Nat.le_refl _) _).alloc (by simp) _).alloc (by simp <;> omega) _).alloc (by simp <;> omega) _).alloc (by simp <;> omega) _

theorem error_nil (k : Int) (w : World) : Calls Tryd.prog 16 #[.nilIface, .int .i64 k] w fun e w' => e = .returned (.bool ((0 : Int) == k)) ∧ w' = w := by
  go_enter Tryd.func16, Tryd.ntmps16
  go_wp2_with fail
  refine (told_nil w).mono ?_
  rintro e w' ⟨rfl, rfl⟩
  go_wp2_with fail
  go_ret
  exact ⟨rfl, rfl⟩

theorem error_hit (n k : Int) (w : World) (hL : Laid w) : Calls Tryd.prog 16 #[.iface 61 (.int .i64 n), .int .i64 k] w fun e w' => e = .returned (.bool (n == k)) ∧ Below w.heap.size w w' := by
  have ht := hid (told_hit n w hL)
  clear hL
  go_enter Tryd.func16, Tryd.ntmps16
  go_wp2_with fail
  refine ht.out.mono ?_
  rintro e w' ⟨rfl, hb⟩
  go_wp2_with fail
  go_ret
  exact ⟨rfl, hb⟩

/-- what attestref1.Prime answers -/
def SaysPrime (n : Nat) (e : Ending) : Prop := (e = .returned (.bool false) ∧ ¬ Num.Prime n) ∨ (e = .returned (.bool true) ∧ Num.Prime n)

set_option maxHeartbeats 400000 in
theorem prime_loop (n : Nat) (w : World) (h3 : 3 ≤ n) (hm : n ≤ 2147483647) :
    Calls Tryd.prog 40 #[.int .i64 n] w fun e w' => SaysPrime n e ∧ w' = w := by
  have h32 : ¬ (n : Int) < 3 := by omega
  have hm2 : ¬ (2147483647 : Int) < (n : Int) := by omega
  go_enter Tryd.func40, Tryd.ntmps40
  go_wp2_with fail
  go_loop [3] (fun i => ∃ k : Nat, 2 ≤ k ∧ k ≤ 46341 ∧ i = .int .i64 k ∧ Hid (∀ e, 2 ≤ e → e < k → ¬ e ∣ n)) (fun i => 46341 - (intOf i).toNat)
  case atStart => exact ⟨2, by omega, by omega, rfl, hid (fun e h g => by omega)⟩
  case round =>
    obtain ⟨k, hk2, hk, rfl, HN⟩ := hrel
    have hsq : ((k : Int) * k) = ((k * k : Nat) : Int) := by simp
    have hkk : k * k ≤ 46341 * 46341 := Nat.mul_le_mul hk hk
    have hq1 : 0 ≤ (k : Int) * k := by omega
    have hq2 : (k : Int) * k ≤ 2147488281 := by omega
    by_cases hle : k * k ≤ n
    · have hk3 := sq_le k n hle hm
      have hle2 : (k : Int) * k ≤ n := by omega
      have HL := hid hle
      clear hsq hle hkk
      by_cases hd : k ∣ n
      · have hmod : ((n : Int) % (k : Int) == 0) = true := by
          rw [beq_iff_eq]; exact Int.emod_eq_zero_of_dvd (Int.ofNat_dvd.2 hd)
        have HD := hid hd
        clear hd
        go_wp2_with fail
        go_ret
        refine ⟨Or.inl ⟨rfl, fun hp => ?_⟩, rfl⟩
        rcases hp.2 k HD.out with g | g
        · omega
        · have h1 := HL.out
          have h2 : k * 2 ≤ k * k := Nat.mul_le_mul_left k hk2
          omega
      · have hmod : ((n : Int) % (k : Int) == 0) = false := by
          rw [beq_eq_false_iff_ne]; intro g; exact hd (Int.ofNat_dvd.1 (Int.dvd_of_emod_eq_zero g))
        have HD := hid hd
        clear hd
        go_wp2_with fail
        go_round
        case rel => exact ⟨k + 1, by omega, by omega, by go_num, fun e he hlt hde => by
          by_cases hek : e = k
          · subst hek; exact HD.out hde
          · exact HN.out e he (by omega) hde⟩
        case measure => simp [intOf]; omega
    · have hle2 : ¬ (k : Int) * k ≤ n := by omega
      have HL := hid hle
      clear hsq hle hkk
      go_wp2_with fail
      go_ret
      exact ⟨Or.inr ⟨rfl, Num.least_prime (Num.least_self (by omega) (Nat.lt_of_not_le HL.out) HN.out)⟩, rfl⟩

theorem prime_yes (n : Nat) (w : World) (h3 : 3 ≤ n) (hm : n ≤ 2147483647) (hp : Num.Prime n) :
    Calls Tryd.prog 40 #[.int .i64 n] w fun e w' => e = .returned (.bool true) ∧ w' = w :=
  (prime_loop n w h3 hm).mono fun e w' ⟨he, hw⟩ => ⟨by
    rcases he with ⟨_, hn⟩ | ⟨he, _⟩
    · exact absurd hp hn
    · exact he, hw⟩

theorem prime_no (p : Int) (w : World) (hno : ¬ okPrime p) :
    Calls Tryd.prog 40 #[.int .i64 p] w fun e w' => e = .returned (.bool false) ∧ w' = w := by
  by_cases h3 : p < 3
  · go_enter Tryd.func40, Tryd.ntmps40
    go_wp2_with fail
    go_ret
    exact ⟨rfl, rfl⟩
  · by_cases h4 : 2147483647 < p
    · go_enter Tryd.func40, Tryd.ntmps40
      go_wp2_with fail
      go_ret
      exact ⟨rfl, rfl⟩
    · obtain ⟨q, rfl⟩ := Int.eq_ofNat_of_zero_le (show 0 ≤ p by omega)
      refine (prime_loop q w (by omega) (by omega)).mono fun e w' ⟨he, hw⟩ => ⟨?_, hw⟩
      rcases he with ⟨he, _⟩ | ⟨_, hp⟩
      · exact he
      · exact absurd ⟨by omega, by omega, by rw [Int.toNat_natCast]; exact hp⟩ hno

set_option maxHeartbeats 400000 in
theorem field_yes (q : Nat) (w : World) (h3 : 3 ≤ q) (h4 : q ≤ 2147483647) (hq : Num.Prime q) :
    Calls Tryd.prog 23 #[.int .i64 q] w fun e w' => e = .returned (.tuple #[.pointer (some ⟨w.heap.size, 0, none⟩), .bool true]) ∧ w'.cell? ⟨w.heap.size, 0, none⟩ = some (.int .i64 q) ∧ Below w.heap.size w w' ∧ w.heap.size < w'.heap.size := by
  have hn := hid (new_yes q w h3 h4 hq)
  have hpy := hid (fun w => prime_yes q w h3 h4 hq)
  clear hq
  go_enter Tryd.func23, Tryd.ntmps23
  go_wp2_with fail
  refine hn.out.mono ?_
  rintro e w1 ⟨rfl, hc, hb, hlt⟩
  have HB := hid hb
  have HC := hid hc
  clear hb hc
  go_wp2_with fail
  refine (hpy.out w1).mono ?_
  rintro e w2 ⟨rfl, rfl⟩
  go_wp2_with fail
  refine (error_nil 0 w2).mono ?_
  rintro e w3 ⟨rfl, rfl⟩
  go_wp2_with fail
  go_ret2
  exact ⟨rfl, HC.out, HB.out, hlt⟩

set_option maxHeartbeats 400000 in
theorem field_no (p : Int) (w : World) (hL : Laid w) (hno : ¬ okPrime p) (h1 : -9223372036854775808 ≤ p) (h2 : p ≤ 9223372036854775807) :
    Calls Tryd.prog 23 #[.int .i64 p] w fun e w' => e = .returned (.tuple #[.pointer none, .bool true]) ∧ Below w.heap.size w w' := by
  have hn := hid (new_no p w hno h1 h2)
  have hpn := hid (prime_no p w hno)
  have hee := hid (error_hit 1 1 w hL)
  clear hno hL
  go_enter Tryd.func23, Tryd.ntmps23
  go_wp2_with fail
  refine hn.out.mono ?_
  rintro e w1 ⟨rfl, rfl⟩
  go_wp2_with fail
  refine hpn.out.mono ?_
  rintro e w2 ⟨rfl, rfl⟩
  go_wp2_with fail
  refine hee.out.mono ?_
  rintro e w3 ⟨rfl, hb⟩
  have HB := hid hb
  clear hb
  go_wp2_with fail
  go_ret2
  exact ⟨rfl, HB.out⟩

end Go.Proofs.YtidkhgplejglaacDoor
