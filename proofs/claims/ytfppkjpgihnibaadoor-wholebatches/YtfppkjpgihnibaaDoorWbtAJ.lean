/- The laws FieldMakes, FieldPowers and FieldRoots answer true for every input, their calls by their contracts; package errors' own variable holds what its text lays. One word made of several: plainly; package whole's batched; the reference's Batched. Package rules: a view in memory; its small functions. Package rules: the cells of an instruction; sums of terms. -/
import Derived.Test.YtfppkjpgihnibaaDoorFld
import Derived.Test.YtfppkjpgihnibaaDoorWbtAI
import Derived.Test.YtfppkjpgihnibaaDoorPls
import Derived.Test.YtfppkjpgihnibaaDoorDoms
import Derived.Test.YtfppkjpgihnibaaDoorSpgs
import Derived.Deep.RegionHeld3
namespace Go.Proofs.YtfppkjpgihnibaaDoor
open Go.RowKit

/-- attestref1.Pow at any number -/
theorem rpow_any (q : Nat) (a n : Int) (w : World) (hp : Num.Prime q) (h3 : 3 ≤ q) (hm : q ≤ 2147483647) (ha : -9223372036854775808 ≤ a) (ha2 : a ≤ 9223372036854775807) (hn : -9223372036854775808 ≤ n) (hn2 : n ≤ 9223372036854775807) :
    Calls Tryd.prog 24 #[.int .i64 q, .int .i64 a, .int .i64 n] w fun e w' => e = .returned (.int .i64 (powz q a n)) ∧ w' = w := by
  by_cases h0 : 0 ≤ n
  · obtain ⟨N, rfl⟩ := Int.eq_ofNat_of_zero_le h0
    rw [powz_ref_nat q N a hp h3]
    exact rpow_nat q N a w h3 hm ha ha2 (by omega)
  · obtain ⟨N, hN⟩ := Int.eq_ofNat_of_zero_le (show 0 ≤ -n by omega)
    have e : n = -(N : Int) := by omega
    subst e
    rw [powz_ref_neg q N a hp h3 (by omega)]
    exact rpow_neg q N a w h3 hm ha ha2 (by omega) (by omega)

end Go.Proofs.YtfppkjpgihnibaaDoor

namespace Go.Proofs.YtfppkjpgihnibaaDoor
open Go.RowKit

/-- what several words come to at a point -/
def btz (q n : Nat) (t first g : Int) (ws : List Int) : Int := (first + (1 + g * t ^ (3 * n)) * (g * Pol.ps (zat ws) (g * g) ws.length)) % (q : Int)
/-- .. word by word -/
def rbz (q n : Nat) (t first g : Int) (ws : List Int) : Nat → Int
  | 0 => first % (q : Int)
  | k + 1 => ((rbz q n t first g ws k + ((powz q g ((2 * k + 1 : Nat) : Int) : Nat) : Int) * zat ws k % (q : Int)) % (q : Int) + (((powz q g ((2 * k + 2 : Nat) : Int) : Nat) : Int) * zat ws k % (q : Int) * ((powz q t ((3 * n : Nat) : Int) : Nat) : Int) % (q : Int))) % (q : Int)
theorem rbz_bd {q : Nat} (h3 : 3 ≤ q) (n : Nat) (t first g : Int) (ws : List Int) : ∀ k, 0 ≤ rbz q n t first g ws k ∧ rbz q n t first g ws k < (q : Int)
  | 0 => emod_bounds _ q h3
  | _ + 1 => emod_bounds _ q h3
theorem pw_sq (g : Int) (k : Nat) : g ^ (2 * k + 1) = g * (g * g) ^ k := by
  induction k with
  | zero => rw [show 2 * 0 + 1 = 0 + 1 from rfl, Int.pow_succ, Int.pow_zero, Int.pow_zero, Int.one_mul, Int.mul_one]
  | succ k ih =>
    rw [show 2 * (k + 1) + 1 = 2 * k + 1 + 1 + 1 by omega, Int.pow_succ, Int.pow_succ, ih, Int.pow_succ]
    simp only [Int.mul_assoc]
theorem rbz_btz {q : Nat} (hp : Num.Prime q) (h3 : 3 ≤ q) (n : Nat) (hn : 1 ≤ n) (t first g : Int) (ws : List Int) : ∀ k, rbz q n t first g ws k = (first + (1 + g * t ^ (3 * n)) * (g * Pol.ps (zat ws) (g * g) k)) % (q : Int)
  | 0 => by simp [rbz, Pol.ps]
  | k + 1 => by
    rw [rbz, rbz_btz hp h3 n hn t first g ws k, powz_int q (2 * k + 1) g hp h3 (by omega), powz_int q (2 * k + 2) g hp h3 (by omega), powz_int q (3 * n) t hp h3 (by omega)]
    simp only [em_add1, em_add2, em_mul1, em_mul2]
    congr 1
    have e2 : g ^ (2 * k + 2) = g * (g * g) ^ k * g := by rw [show 2 * k + 2 = 2 * k + 1 + 1 by omega, Int.pow_succ, pw_sq]
    rw [Pol.ps, e2, pw_sq]
    generalize (g * g) ^ k = G
    generalize t ^ (3 * n) = T
    generalize Pol.ps (zat ws) (g * g) k = P
    generalize zat ws k = z
    grind

theorem pw_em (x : Int) (q : Nat) : ∀ k : Nat, (x % (q : Int)) ^ k % (q : Int) = x ^ k % (q : Int)
  | 0 => by rw [Int.pow_zero, Int.pow_zero]
  | k + 1 => by rw [Int.pow_succ, Int.pow_succ, em_mul2, ← em_mul1, pw_em x q k, em_mul1]
theorem ps_em (f : Nat → Int) (x : Int) (q : Nat) : ∀ n, Pol.ps f (x % (q : Int)) n % (q : Int) = Pol.ps f x n % (q : Int)
  | 0 => rfl
  | n + 1 => by rw [Pol.ps, Pol.ps, ← em_add1, ps_em f x q n, em_add1, ← em_add2, ← em_mul2, pw_em, em_mul2, em_add2]

set_option maxRecDepth 100000 in
set_option maxHeartbeats 2000000 in
theorem batched_any (q b d N c : Nat) (r s t first g : Int) (a : Option Addr) (ws : List Int) (w : World) (hpr : Num.Prime q) (h3 : 3 ≤ q) (h4 : q ≤ 2147483647) (hp : w.cell? ⟨b, 0, none⟩ = some (.int .i64 q)) (hd : DomAt w d b (N : Int) r s) (hN : N ≤ 65536) (h8 : 8 ≤ N) (ht : I64 t) (hf : I64 first) (hg : I64 g) (hw : ws.length ≤ 281474976710656) (hfit : Fits ws) (hrow : RowB w.heap.size w a ws) :
    Calls Tryd.prog 22 #[.pointer (some ⟨d, 0, none⟩), .int .i64 t, .int .i64 first, .slice a ws.length c, .int .i64 g] w fun e w' => e = .returned (.int .i64 (btz q (N / 8) t first g ws)) ∧ ∃ m, w' = w.drewN m := by
  have em : ∀ a : Int, I64 (a % (q : Int)) := fun a => by have := emod_bounds a q h3; unfold I64; omega
  obtain ⟨c0, c1, c2, c3⟩ := hd
  obtain ⟨n, hn⟩ : ∃ n, n = N / 8 := ⟨_, rfl⟩
  obtain ⟨n3, hn3⟩ : ∃ n3, n3 = 3 * n := ⟨_, rfl⟩
  have e1 : (N : Int).tdiv 8 = (n : Int) := by rw [Int.tdiv_eq_ediv_of_nonneg (by omega), hn]; omega
  have w1 : IntKind.i64.wrap (n : Int) = (n : Int) := by rw [IntKind.wrap_i64]; omega
  have e2 : 3 * (n : Int) = (n3 : Int) := by omega
  have w2 : IntKind.i64.wrap (n3 : Int) = (n3 : Int) := by rw [IntKind.wrap_i64]; omega
  have hpi := powz_int q n3 t hpr h3 (by omega)
  have hPb : I64 ((powz q t (n3 : Int) : Nat) : Int) := by rw [hpi]; exact em _
  have HE : Hid (btz q (N / 8) t first g ws = (first + ((1 + g * ((powz q t (n3 : Int) : Nat) : Int) % (q : Int)) % (q : Int)) * (g * evz q ws (g * g % (q : Int)) % (q : Int)) % (q : Int)) % (q : Int)) := by
    unfold Hid btz evz
    rw [hpi, ← hn, ← hn3]
    rw [ps_em]
    simp only [em_add2, em_mul1, em_mul2]
  have HC0 : Hid (∀ W : World, DomAt W d b (N : Int) r s → Calls Tryd.prog 19 #[.pointer (some ⟨d, 0, none⟩)] W fun e w' => e = .returned (.int .i64 (N : Int)) ∧ w' = W) := fun W h => size_any d b N r s W h
  have HC1 : Hid (∀ W : World, W.cell? ⟨b, 0, none⟩ = some (.int .i64 q) → Calls Tryd.prog 31 #[.pointer (some ⟨b, 0, none⟩), .int .i64 t, .int .i64 (n3 : Int)] W fun e w' => e = .returned (.int .i64 ((powz q t (n3 : Int) : Nat) : Int)) ∧ w' = W) := fun W h => pow_any q b t n3 W h3 h4 h ht.1 ht.2 (by omega) (by omega)
  have HC2 : Hid (∀ W : World, W.cell? ⟨b, 0, none⟩ = some (.int .i64 q) → Calls Tryd.prog 36 #[.pointer (some ⟨b, 0, none⟩), .int .i64 g, .int .i64 ((powz q t (n3 : Int) : Nat) : Int)] W fun e w' => e = .returned (.int .i64 (g * ((powz q t (n3 : Int) : Nat) : Int) % (q : Int))) ∧ w' = W) := fun W h => mul_any q b _ _ W h3 h4 h hg.1 hg.2 hPb.1 hPb.2
  have HC3 : Hid (∀ W : World, W.cell? ⟨b, 0, none⟩ = some (.int .i64 q) → Calls Tryd.prog 37 #[.pointer (some ⟨b, 0, none⟩), .int .i64 1, .int .i64 (g * ((powz q t (n3 : Int) : Nat) : Int) % (q : Int))] W fun e w' => e = .returned (.int .i64 ((1 + g * ((powz q t (n3 : Int) : Nat) : Int) % (q : Int)) % (q : Int))) ∧ w' = W) := fun W h => add_any q b _ _ W h3 h4 h (by decide) (by decide) (em _).1 (em _).2
  have HC4 : Hid (∀ W : World, DomAt W d b (N : Int) r s → Calls Tryd.prog 39 #[.pointer (some ⟨d, 0, none⟩)] W fun e w' => e = .returned (.pointer (some ⟨b, 0, none⟩)) ∧ w' = W) := fun W h => dfield_any d b N r s W h
  have HC5 : Hid (∀ W : World, W.cell? ⟨b, 0, none⟩ = some (.int .i64 q) → Calls Tryd.prog 36 #[.pointer (some ⟨b, 0, none⟩), .int .i64 g, .int .i64 g] W fun e w' => e = .returned (.int .i64 (g * g % (q : Int))) ∧ w' = W) := fun W h => mul_any q b _ _ W h3 h4 h hg.1 hg.2 hg.1 hg.2
  have HC6 : Hid (∀ m, Calls Tryd.prog 38 #[.pointer (some ⟨b, 0, none⟩), .slice a ws.length c, .int .i64 (g * g % (q : Int))] (w.drewN m) fun e w' => e = .returned (.int .i64 (evz q ws (g * g % (q : Int)))) ∧ ∃ k, w' = (w.drewN m).drewN k) := fun m =>
    eval_any q b c (· < w.heap.size) a ws _ (w.drewN m) h3 h4 hp hw hfit (em _).1 (em _).2 (RowB.p (fun _ h => h) (RowB.below (below_drewN (Below.refl _ _) m) hrow))
  have hev := evz_bounds q ws (g * g % (q : Int)) h3
  have HC7 : Hid (∀ W : World, W.cell? ⟨b, 0, none⟩ = some (.int .i64 q) → Calls Tryd.prog 36 #[.pointer (some ⟨b, 0, none⟩), .int .i64 g, .int .i64 (evz q ws (g * g % (q : Int)))] W fun e w' => e = .returned (.int .i64 (g * evz q ws (g * g % (q : Int)) % (q : Int))) ∧ w' = W) := fun W h => mul_any q b _ _ W h3 h4 h hg.1 hg.2 (by omega) (by omega)
  have HC8 : Hid (∀ W : World, W.cell? ⟨b, 0, none⟩ = some (.int .i64 q) → Calls Tryd.prog 36 #[.pointer (some ⟨b, 0, none⟩), .int .i64 ((1 + g * ((powz q t (n3 : Int) : Nat) : Int) % (q : Int)) % (q : Int)), .int .i64 (g * evz q ws (g * g % (q : Int)) % (q : Int))] W fun e w' => e = .returned (.int .i64 (((1 + g * ((powz q t (n3 : Int) : Nat) : Int) % (q : Int)) % (q : Int)) * (g * evz q ws (g * g % (q : Int)) % (q : Int)) % (q : Int))) ∧ w' = W) := fun W h => mul_any q b _ _ W h3 h4 h (em _).1 (em _).2 (em _).1 (em _).2
  have HC9 : Hid (∀ W : World, W.cell? ⟨b, 0, none⟩ = some (.int .i64 q) → Calls Tryd.prog 37 #[.pointer (some ⟨b, 0, none⟩), .int .i64 first, .int .i64 (((1 + g * ((powz q t (n3 : Int) : Nat) : Int) % (q : Int)) % (q : Int)) * (g * evz q ws (g * g % (q : Int)) % (q : Int)) % (q : Int))] W fun e w' => e = .returned (.int .i64 ((first + ((1 + g * ((powz q t (n3 : Int) : Nat) : Int) % (q : Int)) % (q : Int)) * (g * evz q ws (g * g % (q : Int)) % (q : Int)) % (q : Int)) % (q : Int))) ∧ w' = W) := fun W h => add_any q b _ _ W h3 h4 h hf.1 hf.2 (em _).1 (em _).2
  obtain ⟨R, hR⟩ : ∃ R, R = btz q (N / 8) t first g ws := ⟨_, rfl⟩
  rw [← hR] at HE ⊢
  have QP : Hid (∀ nn, (w.drewN nn).cell? ⟨b, 0, none⟩ = some (.int .i64 q)) := fun nn => hp
  have QD : Hid (∀ nn, DomAt (w.drewN nn) d b (N : Int) r s) := fun nn => ⟨c0, c1, c2, c3⟩
  clear hR em hpi hPb hev hrow hfit hn hn3
  generalize (first + ((1 + g * ((powz q t (n3 : Int) : Nat) : Int) % (q : Int)) % (q : Int)) * (g * evz q ws (g * g % (q : Int)) % (q : Int)) % (q : Int)) % (q : Int) = u9 at *
  generalize ((1 + g * ((powz q t (n3 : Int) : Nat) : Int) % (q : Int)) % (q : Int)) * (g * evz q ws (g * g % (q : Int)) % (q : Int)) % (q : Int) = u8 at *
  generalize g * evz q ws (g * g % (q : Int)) % (q : Int) = u7 at *
  generalize evz q ws (g * g % (q : Int)) = u6 at *
  generalize g * g % (q : Int) = u5 at *
  generalize (1 + g * ((powz q t (n3 : Int) : Nat) : Int) % (q : Int)) % (q : Int) = u3 at *
  generalize g * ((powz q t (n3 : Int) : Nat) : Int) % (q : Int) = u2 at *
  generalize ((powz q t (n3 : Int) : Nat) : Int) = u1 at *
  generalize ws.length = lw at *
  generalize (N : Int) = Nx at *
  go_enter Tryd.func22, Tryd.ntmps22
  go_wp2_with fail
  go_quiet (first
    | (go_at_call 19; with_reducible exact Calls.quiet_of_same (HC0.out _ (QD.out _)))
    | (go_at_call 31; with_reducible exact Calls.quiet_of_same (HC1.out _ (QP.out _)))
    | (go_at_call 36; with_reducible exact Calls.quiet_of_same (HC2.out _ (QP.out _)))
    | (go_at_call 37; with_reducible exact Calls.quiet_of_same (HC3.out _ (QP.out _))))
  obtain ⟨m1, hm1⟩ : ∃ m1, m1 = nq := ⟨_, rfl⟩
  rw [← hm1]
  clear hm1 nq
  obtain ⟨W1, hW1⟩ : ∃ W1, W1 = w.drewN m1 := ⟨_, rfl⟩
  have k0 : W1.cell? ⟨d, 0, none⟩ = some (.pointer (some ⟨b, 0, none⟩)) := by rw [hW1]; exact c0
  have QP1 : Hid (∀ nn, (W1.drewN nn).cell? ⟨b, 0, none⟩ = some (.int .i64 q)) := fun nn => by rw [hW1]; exact hp
  have QD1 : Hid (∀ nn, DomAt (W1.drewN nn) d b Nx r s) := fun nn => by rw [hW1]; exact ⟨c0, c1, c2, c3⟩
  have HC6' : Hid (∀ m, Calls Tryd.prog 38 #[.pointer (some ⟨b, 0, none⟩), .slice a lw c, .int .i64 u5] (W1.drewN m) fun e w' => e = .returned (.int .i64 u6) ∧ ∃ k, w' = (W1.drewN m).drewN k) := fun m => by rw [hW1, World.drewN_drewN]; exact HC6.out _
  have HW1 := hid hW1
  rw [← hW1]
  clear hW1
  go_wp2_with fail
  go_quiet (first
    | (go_at_call 39; with_reducible exact Calls.quiet_of_same (HC4.out _ (QD1.out _)))
    | (go_at_call 38; with_reducible exact Calls.quiet_of (HC6'.out _))
    | (go_at_call 36; first | with_reducible exact Calls.quiet_of_same (HC5.out _ (QP1.out _)) | with_reducible exact Calls.quiet_of_same (HC7.out _ (QP1.out _))))
  obtain ⟨m2, hm2⟩ : ∃ m2, m2 = nq := ⟨_, rfl⟩
  rw [← hm2]
  clear hm2 nq
  obtain ⟨W2, hW2⟩ : ∃ W2, W2 = W1.drewN m2 := ⟨_, rfl⟩
  have k1 : W2.cell? ⟨d, 0, none⟩ = some (.pointer (some ⟨b, 0, none⟩)) := by rw [hW2]; exact k0
  have QP2 : Hid (∀ nn, (W2.drewN nn).cell? ⟨b, 0, none⟩ = some (.int .i64 q)) := fun nn => by rw [hW2, World.drewN_drewN]; exact QP1.out _
  have HW2 : Hid (W2 = w.drewN (m1 + m2)) := by unfold Hid; rw [hW2, HW1.out, World.drewN_drewN]
  rw [← hW2]
  clear hW2
  go_wp2_with fail
  go_quiet (first
    | (go_at_call 36; with_reducible exact Calls.quiet_of_same (HC8.out _ (QP2.out _)))
    | (go_at_call 37; with_reducible exact Calls.quiet_of_same (HC9.out _ (QP2.out _))))
  go_wp2_with fail
  go_ret
  exact ⟨by have h := HE.out; subst h; rfl, _, by rw [HW2.out, World.drewN_drewN]⟩

set_option maxRecDepth 100000 in
set_option maxHeartbeats 4000000 in
theorem rbatched_any (q n c : Nat) (t first g : Int) (a : Option Addr) (ws : List Int) (w : World) (hpr : Num.Prime q) (h3 : 3 ≤ q) (h4 : q ≤ 2147483647) (h1 : 1 ≤ n) (hn : n ≤ 65536) (ht : I64 t) (hf : I64 first) (hg : I64 g) (hw : ws.length ≤ 281474976710656) (hfit : Fits ws) (hrow : RowB w.heap.size w a ws) :
    Calls Tryd.prog 11 #[.int .i64 q, .int .i64 (n : Int), .int .i64 t, .int .i64 first, .slice a ws.length c, .int .i64 g] w fun e w' => e = .returned (.int .i64 (btz q n t first g ws)) ∧ w' = w := by
  have em : ∀ a : Int, I64 (a % (q : Int)) := fun a => by have := emod_bounds a q h3; unfold I64; omega
  have hpw : ∀ (x : Int) (k : Nat), 1 ≤ k → I64 ((powz q x (k : Int) : Nat) : Int) := fun x k hk => by rw [powz_int q k x hpr h3 hk]; exact em _
  obtain ⟨n3, hn3⟩ : ∃ n3, n3 = 3 * n := ⟨_, rfl⟩
  have e3 : 3 * (n : Int) = (n3 : Int) := by omega
  have w3 : IntKind.i64.wrap (n3 : Int) = (n3 : Int) := by rw [IntKind.wrap_i64]; omega
  have HE : Hid (btz q n t first g ws = rbz q n t first g ws ws.length) := (rbz_btz hpr h3 n h1 t first g ws ws.length).symm
  have HC0 := hid (rof_any q first w h3 h4 hf.1 hf.2)
  have HC1 := hid (rpow_any q t (n3 : Int) w hpr h3 h4 ht.1 ht.2 (by omega) (by omega))
  have HP := hid hpr
  have HPW := hid hpw
  have HEM := hid em
  have HR := hid hrow
  have HFI := hid hfit
  have hTb := hpw t n3 (by omega)
  have HTB := hid hTb
  have HST : Hid (∀ k, rbz q n t first g ws (k + 1) = ((rbz q n t first g ws k + ((powz q g ((2 * k + 1 : Nat) : Int) : Nat) : Int) * zat ws k % (q : Int)) % (q : Int) + (((powz q g ((2 * k + 2 : Nat) : Int) : Nat) : Int) * zat ws k % (q : Int) * ((powz q t (n3 : Int) : Nat) : Int) % (q : Int))) % (q : Int)) := fun k => by rw [hn3]; rfl
  obtain ⟨m, hm⟩ : ∃ m, m = ws.length := ⟨_, rfl⟩
  have HM := hid hm
  rw [← hm] at HE hw ⊢
  obtain ⟨R, hR⟩ : ∃ R, R = btz q n t first g ws := ⟨_, rfl⟩
  rw [← hR] at HE ⊢
  have e0 : rbz q n t first g ws 0 = first % (q : Int) := rfl
  have HZ := hid e0
  clear hrow hfit hm hR hn3 em hpw hTb e0
  generalize ((powz q t (n3 : Int) : Nat) : Int) = T at *
  go_enter Tryd.func11, Tryd.ntmps11
  go_wp2_with fail
  refine HC0.out.mono ?_
  rintro e w' ⟨rfl, hw'⟩
  have hw'' := hw'.symm
  subst hw''
  rw [← HZ.out]
  clear hw'
  go_wp2_with fail
  refine HC1.out.mono ?_
  rintro e w' ⟨rfl, hw'⟩
  have hw'' := hw'.symm
  subst hw''
  clear hw'
  go_wp2_with fail
  go_loop [13, 15, 16] (fun sv iv _ => ∃ k : Nat, k ≤ m ∧ iv = .int .i64 k ∧ sv = .int .i64 (rbz q n t first g ws k)) (fun _ iv _ => m - (intOf iv).toNat)
  case atStart => exact ⟨0, Nat.zero_le _, rfl, rfl⟩
  case round =>
    obtain ⟨k, hk, rfl, rfl⟩ := hrel
    by_cases hlt : k < m
    · have hlt2 : (k : Int) < (m : Int) := by omega
      have hks : IntKind.i64.wrap ((k : Int) + 1) = (k : Int) + 1 := by rw [IntKind.wrap_i64]; omega
      obtain ⟨k2, hk2⟩ : ∃ k2, k2 = 2 * k := ⟨_, rfl⟩
      obtain ⟨k3, hk3⟩ : ∃ k3, k3 = 2 * k + 1 := ⟨_, rfl⟩
      obtain ⟨k4, hk4⟩ : ∃ k4, k4 = 2 * k + 2 := ⟨_, rfl⟩
      have f2 : 2 * (k : Int) = (k2 : Int) := by omega
      have f3 : (k2 : Int) + 1 = (k3 : Int) := by omega
      have f4 : (k2 : Int) + 2 = (k4 : Int) := by omega
      have v2 : IntKind.i64.wrap (k2 : Int) = (k2 : Int) := by rw [IntKind.wrap_i64]; omega
      have v3 : IntKind.i64.wrap (k3 : Int) = (k3 : Int) := by rw [IntKind.wrap_i64]; omega
      have v4 : IntKind.i64.wrap (k4 : Int) = (k4 : Int) := by rw [IntKind.wrap_i64]; omega
      obtain ⟨b, o, rfl, hb, hc⟩ := HR.out k (by have := HM.out; omega)
      have hz := HFI.out.all k
      have hst := HST.out k
      rw [← hk3, ← hk4] at hst
      have bp3 := HPW.out g k3 (by omega)
      have bp4 := HPW.out g k4 (by omega)
      have brb : I64 (rbz q n t first g ws k) := by have := rbz_bd h3 n t first g ws k; unfold I64; omega
      have HD0 := hid (rpow_any q g (k3 : Int) w HP.out h3 h4 hg.1 hg.2 (by omega) (by omega))
      have HD1 := hid (rmul_any q ((powz q g (k3 : Int) : Nat) : Int) (zat ws k) w h3 h4 bp3.1 bp3.2 hz.1 hz.2)
      have HD2 := hid (radd_any q (rbz q n t first g ws k) (((powz q g (k3 : Int) : Nat) : Int) * zat ws k % (q : Int)) w h3 h4 brb.1 brb.2 (HEM.out _).1 (HEM.out _).2)
      have HD3 := hid (rpow_any q g (k4 : Int) w HP.out h3 h4 hg.1 hg.2 (by omega) (by omega))
      have HD4 := hid (rmul_any q ((powz q g (k4 : Int) : Nat) : Int) (zat ws k) w h3 h4 bp4.1 bp4.2 hz.1 hz.2)
      have HD5 := hid (rmul_any q (((powz q g (k4 : Int) : Nat) : Int) * zat ws k % (q : Int)) T w h3 h4 (HEM.out _).1 (HEM.out _).2 HTB.out.1 HTB.out.2)
      have HD6 := hid (radd_any q ((rbz q n t first g ws k + ((powz q g (k3 : Int) : Nat) : Int) * zat ws k % (q : Int)) % (q : Int)) (((powz q g (k4 : Int) : Nat) : Int) * zat ws k % (q : Int) * T % (q : Int)) w h3 h4 (HEM.out _).1 (HEM.out _).2 (HEM.out _).1 (HEM.out _).2)
      rw [← hst] at HD6
      obtain ⟨t6, ht6⟩ : ∃ t6, t6 = rbz q n t first g ws (k + 1) := ⟨_, rfl⟩
      have HT6 := hid ht6
      rw [← ht6] at HD6
      clear hst ht6 hk2 hk3 hk4 bp3 bp4 brb hz hb
      generalize ((powz q g (k4 : Int) : Nat) : Int) * zat ws k % (q : Int) * T % (q : Int) = t5 at *
      generalize ((powz q g (k4 : Int) : Nat) : Int) * zat ws k % (q : Int) = t4 at *
      generalize ((powz q g (k4 : Int) : Nat) : Int) = t3 at *
      generalize (rbz q n t first g ws k + ((powz q g (k3 : Int) : Nat) : Int) * zat ws k % (q : Int)) % (q : Int) = t2 at *
      generalize ((powz q g (k3 : Int) : Nat) : Int) * zat ws k % (q : Int) = t1 at *
      generalize ((powz q g (k3 : Int) : Nat) : Int) = t0 at *
      generalize rbz q n t first g ws k = sk at *
      generalize zat ws k = zk at *
      go_wp2_with fail
      refine HD0.out.mono ?_
      rintro e w' ⟨rfl, hw'⟩
      have hw'' := hw'.symm
      subst hw''
      clear hw'
      go_wp2_with fail
      refine HD1.out.mono ?_
      rintro e w' ⟨rfl, hw'⟩
      have hw'' := hw'.symm
      subst hw''
      clear hw'
      go_wp2_with fail
      refine HD2.out.mono ?_
      rintro e w' ⟨rfl, hw'⟩
      have hw'' := hw'.symm
      subst hw''
      clear hw'
      go_wp2_with fail
      refine HD3.out.mono ?_
      rintro e w' ⟨rfl, hw'⟩
      have hw'' := hw'.symm
      subst hw''
      clear hw'
      go_wp2_with fail
      refine HD4.out.mono ?_
      rintro e w' ⟨rfl, hw'⟩
      have hw'' := hw'.symm
      subst hw''
      clear hw'
      go_wp2_with fail
      refine HD5.out.mono ?_
      rintro e w' ⟨rfl, hw'⟩
      have hw'' := hw'.symm
      subst hw''
      clear hw'
      go_wp2_with fail
      refine HD6.out.mono ?_
      rintro e w' ⟨rfl, hw'⟩
      have hw'' := hw'.symm
      subst hw''
      clear hw'
      go_wp2_with fail
      go_round
      case rel => exact ⟨k + 1, by omega, by go_num, by rw [HT6.out]⟩
      case measure => simp [intOf]; omega
    · have hlt2 : ¬ (k : Int) < (m : Int) := by omega
      obtain rfl : k = m := by omega
      generalize rbz q n t first g ws k = sk at *
      go_wp2_with fail
      go_ret
      exact ⟨by have h := HE.out; subst h; rfl, rfl⟩

end Go.Proofs.YtfppkjpgihnibaaDoor

namespace Go.Proofs.YtfppkjpgihnibaaDoor
open Go.RowKit Go.Maps

/-- what is known of a view's parts -/
structure VF (p : Nat) (L : List InsZ) (size out : Int) (r n : List Int) : Prop where
  h3 : 3 ≤ p
  h4 : p ≤ 2147483647
  hr : r.length = 20 + L.length
  hn : n.length = 20 + L.length
  fr : ∀ j, I64 (zat r j)
  fn : ∀ j, I64 (zat n j)
  hI : InsB L
  hl : L.length ≤ 4398046511104
  h1 : 1 ≤ L.length
  hsz : I64 size
  hout : I64 out
end Go.Proofs.YtfppkjpgihnibaaDoor

namespace Go.Proofs.YtfppkjpgihnibaaDoor
open Go.RowKit Go.Maps

end Go.Proofs.YtfppkjpgihnibaaDoor
