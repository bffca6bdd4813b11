/- What the methods Order, isGenerator and Generator of a field answer. -/
import Derived.Test.YtidkhgplejglaacDoorPow
import Derived.Test.YtidkhgplejglaacDoorPrimes
import Derived.Test.YtidkhgplejglaacDoorNew
namespace Go.Proofs.YtidkhgplejglaacDoor
open Go.RowKit

/-- a list that can be read -/
def Row (w : World) (v : Value) (ds : List Nat) : Prop :=
  (v = .slice none 0 0 ∧ ds = []) ∨ ∃ g cap, v = .slice (some ⟨g, 0, none⟩) ds.length cap ∧ ∀ k, k < ds.length → w.cell? ⟨g, k, none⟩ = some (.int .i64 ((ds.getD k 0 : Nat) : Int))

theorem row_of_owns {w : World} {base : Nat} {v : Value} {ds : List Nat} (h : w.ownsRow base 3 1 v ds.length (cellsOf ds)) : Row w v ds := by
  rcases h.2 with ⟨h1, h2⟩ | ⟨g, cap, cur, hv, _⟩
  · exact Or.inl ⟨h1, List.length_eq_zero_iff.1 h2⟩
  · refine Or.inr ⟨g, cap, hv, fun k hk => ?_⟩
    have := h.cells (g := g) (by rw [hv]; rfl) k (.int .i64 ((ds.getD k 0 : Nat) : Int)) (by simp [cellsOf, hk])
    have hadd : (⟨g, 0, none⟩ : Addr).add k = ⟨g, k, none⟩ := by unfold Addr.add; split <;> simp_all
    rw [hadd] at this
    exact this

/-- what isGenerator answers -/
def genB (p : Nat) (a : Int) (ds : List Nat) : Bool := ds.all fun q => powz p a (((p : Int) - 1) / (q : Int)) != 1

theorem genB_take_succ (p : Nat) (a : Int) (ds : List Nat) (k : Nat) (h : k < ds.length) :
    genB p a (ds.take (k + 1)) = (genB p a (ds.take k) && (powz p a (((p : Int) - 1) / ((ds.getD k 0 : Nat) : Int)) != 1)) := by
  unfold genB
  rw [List.take_succ_eq_append_getElem h, List.all_append]
  simp [h]

set_option maxRecDepth 100000 in
set_option maxHeartbeats 400000 in
theorem isgen_any (p b : Nat) (a : Int) (v : Value) (ds : List Nat) (w : World) (h3 : 3 ≤ p) (hm : p ≤ 2147483647) (hp : w.cell? ⟨b, 0, none⟩ = some (.int .i64 p))
    (ha : -9223372036854775808 ≤ a) (ha2 : a ≤ 9223372036854775807) (hr : Row w v ds) (hlen : ds.length ≤ 31) (hds : ∀ k, k < ds.length → 2 ≤ ds.getD k 0 ∧ ds.getD k 0 ≤ 2147483647) :
    Calls Tryd.prog 65 #[.pointer (some ⟨b, 0, none⟩), .int .i64 a, v] w fun e w' => e = .returned (.bool (genB p a ds)) ∧ w' = w := by
  rcases hr with ⟨rfl, rfl⟩ | ⟨g, cap, rfl, hc⟩
  · go_enter Tryd.func65, Tryd.ntmps65
    go_wp2_with fail
    go_loop [11] (fun i => i = .int .i64 0) (fun _ => 0)
    case atStart => exact rfl
    case round =>
      obtain rfl := hrel
      go_wp2_with fail
      go_ret
      exact ⟨rfl, rfl⟩
  · have HDS := hid hds
    have HC := hid hc
    clear hc hds
    go_enter Tryd.func65, Tryd.ntmps65
    go_wp2_with fail
    go_loop [11] (fun i => ∃ k : Nat, k ≤ ds.length ∧ i = .int .i64 k ∧ Hid (genB p a (ds.take k) = true)) (fun i => ds.length - (intOf i).toNat)
    case atStart => exact ⟨0, Nat.zero_le _, rfl, hid rfl⟩
    case round =>
      obtain ⟨k, hk, rfl, hB⟩ := hrel
      by_cases hlt : k < ds.length
      · have hcell := HC.out k hlt
        obtain ⟨hq2, hq3⟩ := HDS.out k hlt
        have hsucc := hid (genB_take_succ p a ds k hlt)
        generalize hq : ds.getD k 0 = q at *
        clear hq
        have q1 : 0 ≤ ((p : Int) - 1) / (q : Int) := Int.ediv_nonneg (by omega) (by omega)
        have q2 : ((p : Int) - 1) / (q : Int) ≤ 2147483647 := by
          have := Int.ediv_le_self (a := (p : Int) - 1) (q : Int) (by omega); omega
        have hpw := hid (pow_any p b a (((p : Int) - 1) / (q : Int)) w h3 hm hp ha ha2 (by omega) (by omega))
        by_cases hone : powz p a (((p : Int) - 1) / (q : Int)) = 1
        · have hb1 : (((powz p a (((p : Int) - 1) / (q : Int)) : Nat) : Int) == 1) = true := by rw [hone]; rfl
          rw [hone] at hsucc
          have HF : Hid (genB p a ds = false) := by
            unfold Hid
            have h1 : genB p a (ds.take (k + 1)) = false := by rw [hsucc.out]; simp
            rw [← List.take_append_drop (k + 1) ds]
            unfold genB at h1 ⊢
            rw [List.all_append, h1, Bool.false_and]
          clear hone
          go_wp2_with fail
          refine hpw.out.mono ?_
          rintro e w' ⟨rfl, rfl⟩
          go_wp2_with fail
          go_ret
          exact ⟨ret_bool HF.out.symm, rfl⟩
        · have hb1 : (((powz p a (((p : Int) - 1) / (q : Int)) : Nat) : Int) == 1) = false := by rw [beq_eq_false_iff_ne]; omega
          have hT : Hid (genB p a (ds.take (k + 1)) = true) := by
            unfold Hid; rw [hsucc.out, hB.out, Bool.true_and, bne_iff_ne]; exact hone
          clear hone
          go_wp2_with fail
          refine hpw.out.mono ?_
          rintro e w' ⟨rfl, rfl⟩
          go_wp2_with fail
          go_round
          case rel => exact ⟨k + 1, by omega, by go_num, hT⟩
          case measure => simp [intOf]; omega
      · have hkl : k = ds.length := by omega
        have HF : Hid (genB p a ds = true) := by
          have := hB.out
          rw [hkl, List.take_length] at this
          exact this
        clear hB
        go_wp2_with fail
        go_ret
        exact ⟨ret_bool HF.out.symm, rfl⟩

theorem powz_elem (p x n : Nat) (h3 : 3 ≤ p) (h1 : 1 ≤ x) (h2 : x < p) (hn : n < p - 1) : powz p x n = Num.pwm p x n := by
  have e : (x : Int) % (p : Int) = x := Int.emod_eq_of_lt (by omega) (by omega)
  have e2 : (n : Int) % ((p : Int) - 1) = n := Int.emod_eq_of_lt (by omega) (by omega)
  unfold powz
  rw [e, e2, if_neg (by omega), Int.toNat_natCast, Int.toNat_natCast]

theorem div_cast (p q : Nat) (h3 : 3 ≤ p) : ((p : Int) - 1) / (q : Int) = (((p - 1) / q : Nat) : Int) := by
  have : ((p : Int) - 1) = ((p - 1 : Nat) : Int) := by omega
  rw [this]; simp

theorem genB_iff (p x : Nat) (ds : List Nat) (h3 : 3 ≤ p) (h1 : 1 ≤ x) (h2 : x < p) (hds : Num.Primes (p - 1) ds) : genB p x ds = true ↔ Num.IsGen p x := by
  have key : ∀ q, Num.Prime q → powz p x (((p : Int) - 1) / (q : Int)) = Num.pwm p x ((p - 1) / q) := by
    intro q hq
    rw [div_cast p q h3, powz_elem p x _ h3 h1 h2 (Nat.div_lt_self (by omega) hq.1)]
  unfold genB Num.IsGen
  rw [List.all_eq_true]
  constructor
  · intro h q hq hd
    have := h q ((hds.1 q).2 ⟨hq, hd⟩)
    rw [bne_iff_ne, key q hq] at this
    exact this
  · intro h q hq
    obtain ⟨g1, g2⟩ := (hds.1 q).1 hq
    rw [bne_iff_ne, key q g1]
    exact h q g1 g2

theorem primes_bounds {n : Nat} {ds : List Nat} (hn : 1 ≤ n) (hm : n ≤ 2147483647) (h : Num.Primes n ds) : ∀ k, k < ds.length → 2 ≤ ds.getD k 0 ∧ ds.getD k 0 ≤ 2147483647 := by
  intro k hk
  have hmem : ds.getD k 0 ∈ ds := by
    simp [hk]
  obtain ⟨g1, g2⟩ := (h.1 _).1 hmem
  have := Nat.le_of_dvd (by omega) g2
  exact ⟨g1.1, by omega⟩

set_option maxRecDepth 100000 in
set_option maxHeartbeats 400000 in
theorem gen_any (p b : Nat) (w : World) (h3 : 3 ≤ p) (hm : p ≤ 2147483647) (hp : w.cell? ⟨b, 0, none⟩ = some (.int .i64 p)) (hb : b < w.heap.size) :
    Calls Tryd.prog 53 #[.pointer (some ⟨b, 0, none⟩)] w fun e w' => ∃ g : Nat, e = .returned (.int .i64 g) ∧ Num.GenIs p g ∧ Below w.heap.size w w' := by
  have hpr := hid (primes_any (p - 1) w (by omega) (by omega))
  rw [show (((p - 1 : Nat)) : Int) = (p : Int) - 1 from by omega] at hpr
  go_enter Tryd.func53, Tryd.ntmps53
  go_wp2_with fail
  refine hpr.out.mono ?_
  rintro e w1 ⟨v, ds, rfl, hds, hown, hbel⟩
  have hp1 : w1.cell? ⟨b, 0, none⟩ = some (.int .i64 p) := (hbel.cell hb).trans hp
  have HR := hid (row_of_owns hown)
  have HD := hid hds
  have HB := hid hbel
  have HQ := hid (primes_bounds (by omega) (by omega) hds)
  have hl31 := hds.2
  clear hpr hown hds hbel
  go_wp2_with fail
  go_loop [15] (fun i => ∃ k : Nat, k ≤ p ∧ i = .int .i64 k ∧ Hid (∀ x, 1 ≤ x → x < k → ¬ Num.IsGen p x)) (fun i => p - (intOf i).toNat)
  case atStart => exact ⟨0, Nat.zero_le _, rfl, hid (fun x _ hx => by omega)⟩
  case round =>
    obtain ⟨k, hk, rfl, hno⟩ := hrel
    by_cases hlt : k < p
    · have hlt2 : (k : Int) < (p : Int) := by omega
      by_cases hk0 : 0 < k
      · have hk02 : (0 : Int) < (k : Int) := by omega
        have hig := hid (isgen_any p b (k : Int) v ds w1 h3 hm hp1 (by omega) (by omega) HR.out hl31 HQ.out)
        have hiff := hid (genB_iff p k ds h3 hk0 hlt HD.out)
        by_cases hg : genB p k ds = true
        · rw [hg] at hig
          have HG := hid (hiff.out.1 hg)
          clear hg
          go_wp2_with fail
          refine hig.out.mono ?_
          rintro e w2 ⟨rfl, rfl⟩
          go_wp2_with fail
          go_ret
          exact ⟨k, rfl, Or.inl ⟨hk0, hlt, HG.out, hno.out⟩, HB.out⟩
        · have hgf : genB p k ds = false := by simpa using hg
          rw [hgf] at hig
          have HG : Hid (¬ Num.IsGen p k) := fun h => hg (hiff.out.2 h)
          clear hg hgf
          go_wp2_with fail
          refine hig.out.mono ?_
          rintro e w2 ⟨rfl, rfl⟩
          go_wp2_with fail
          go_round
          case rel => exact ⟨k + 1, by omega, by go_num, fun x hx1 hx2 => by
            by_cases hxk : x = k
            · subst hxk; exact HG.out
            · exact hno.out x hx1 (by omega)⟩
          case measure => simp [intOf]; omega
      · have hk02 : ¬ (0 : Int) < (k : Int) := by omega
        have hdec : decide ((0 : Int) < (k : Int)) = false := by simpa using hk02
        go_wp2_with fail
        go_round
        case rel => exact ⟨k + 1, by omega, by go_num, fun x hx1 hx2 => by omega⟩
        case measure => simp [intOf]; omega
    · have hkp : k = p := by omega
      have HN : Hid (∀ x, 1 ≤ x → x < p → ¬ Num.IsGen p x) := fun x hx1 hx2 => hno.out x hx1 (by omega)
      have hlt2 : ¬ (k : Int) < (p : Int) := by omega
      clear hkp
      go_wp2_with fail
      go_ret
      exact ⟨0, rfl, Or.inr ⟨rfl, HN.out⟩, HB.out⟩

/-- with a prime: what Pow answers for any number of factors from 0 on, of what is not 0 -/
theorem powz_nat (p : Nat) (a : Int) (n : Nat) (hp : Num.Prime p) (h3 : 3 ≤ p) (h0 : a % (p : Int) ≠ 0) : powz p a n = Num.pwm p (a % (p : Int)).toNat n := by
  obtain ⟨a1, a2⟩ := emod_bounds a p h3
  have e : (n : Int) % ((p : Int) - 1) = ((n % (p - 1) : Nat) : Int) := by
    rw [show (p : Int) - 1 = ((p - 1 : Nat) : Int) from by omega]; simp
  unfold powz
  rw [if_neg (fun h => h0 h.1), e, Int.toNat_natCast, Num.pwm_mod hp (by omega) (by omega)]

theorem take_succ_getD (ds : List Nat) (k : Nat) (h : k < ds.length) : ds.take (k + 1) = ds.take k ++ [ds.getD k 0] := by
  rw [List.take_succ_eq_append_getElem h]; simp [h]

end Go.Proofs.YtidkhgplejglaacDoor
