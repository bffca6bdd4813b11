
import Derived.Test.YtlhjifpomchnfaaGreatDoorDoms
import Derived.Test.YtlhjifpomchnfaaGreatDoorPoAD
import Derived.Test.YtlhjifpomchnfaaGreatDoorPls
import Derived.Test.YtlhjifpomchnfaaGreatDoorPoAE
import Derived.Test.YtlhjifpomchnfaaGreatDoorRefs
import Derived.Test.YtlhjifpomchnfaaGreatDoorPoAC
import Derived.BigQuiet
set_option maxRecDepth 1000000
set_option maxHeartbeats 8000000
namespace Go.Proofs.YtlhjifpomchnfaaGreatDoor
open Go.RowKit
theorem and_split (x m b : Nat) (hb : b < 256) : x &&& (256 * m + b) = 256 * (x / 256 &&& m) + (x % 256 &&& b) := by
 have h1 : (x &&& (256 * m + b)) / 2 ^ 8 = x / 2 ^ 8 &&& (256 * m + b) / 2 ^ 8 := Nat.and_div_two_pow
 have h2 : (x &&& (256 * m + b)) % 2 ^ 8 = (x % 2 ^ 8) &&& ((256 * m + b) % 2 ^ 8) := Nat.and_mod_two_pow
 rw [show (256 * m + b) / 2 ^ 8 = m from by omega] at h1
 rw [show (256 * m + b) % 2 ^ 8 = b from by omega] at h2
 rw [show (2 : Nat) ^ 8 = 256 from rfl] at h1 h2
 rw [<- h1, <- h2]
 exact (Nat.div_add_mod _ 256).symm
def rpb (b : Nat) : Nat -> Nat
 | 0 => 0
 | k + 1 => 256 * rpb b k + b
def bm (g : Nat -> Nat) : Nat -> Nat -> Nat
 | 0, _ => 0
 | k + 1, n => 256 * bm g k (n / 256) + g (n % 256)
theorem bm_div {g : Nat -> Nat} (hg : ∀ c, c < 256 -> g c < 256) (k n : Nat) : bm g (k + 1) n / 256 = bm g k (n / 256) := by
 have := hg (n % 256) (by omega)
 simp only [bm]; omega
theorem bm_mod {g : Nat -> Nat} (hg : ∀ c, c < 256 -> g c < 256) (k n : Nat) : bm g (k + 1) n % 256 = g (n % 256) := by
 have := hg (n % 256) (by omega)
 simp only [bm]; omega
def fb1 (c : Nat) : Nat := (c / 2 &&& 85) + (c &&& 85)
def fb2 (c : Nat) : Nat := (c / 4 &&& 51) + (c &&& 51)
def fb3 (c : Nat) : Nat := c % 16 + c / 16
theorem t1 : ∀ (a : Fin 2) (c : Fin 256), (128 * a.val + c.val / 2) &&& 85 = c.val / 2 &&& 85 := by decide +kernel
theorem t2 : ∀ (a : Fin 4) (c : Fin 256), (64 * a.val + c.val / 4) &&& 51 = c.val / 4 &&& 51 := by decide +kernel
theorem t3 : ∀ (c : Fin 256), fb1 c.val < 256 /\ fb2 (fb1 c.val) % 16 <= 4 /\ fb2 (fb1 c.val) / 16 <= 4 /\ fb3 (fb2 (fb1 c.val)) <= 8 := by decide +kernel
theorem t4 : ∀ (c : Fin 256), (fb3 (fb2 (fb1 c.val)) = 0 -> c.val = 0) := by decide +kernel
theorem t5 : ∀ (c : Fin 256), (fb3 (fb2 (fb1 c.val)) = 1 -> c.val = 1 ∨ c.val = 2 ∨ c.val = 4 ∨ c.val = 8 ∨ c.val = 16 ∨ c.val = 32 ∨ c.val = 64 ∨ c.val = 128) := by decide +kernel
theorem st1 (k n : Nat) : (n / 2 &&& rpb 85 k) + (n &&& rpb 85 k) = bm fb1 k n := by
 induction k generalizing n with
 | zero => simp [rpb, bm]
 | succ k ih =>
  simp only [rpb, bm]
  rw [and_split _ _ _ (by omega), and_split _ _ _ (by omega), <- ih (n / 256), show n / 2 / 256 = n / 256 / 2 from by omega]
  have h := t1 ⟨n / 256 % 2, by omega⟩ ⟨n % 256, by omega⟩
  simp only at h
  rw [show n / 2 % 256 = 128 * (n / 256 % 2) + n % 256 / 2 from by omega, h]
  unfold fb1
  omega
theorem st2 (g : Nat -> Nat) (hg : ∀ c, c < 256 -> g c < 256) (k n : Nat) : (bm g k n / 4 &&& rpb 51 k) + (bm g k n &&& rpb 51 k) = bm (fun c => fb2 (g c)) k n := by
 induction k generalizing n with
 | zero => simp [rpb, bm]
 | succ k ih =>
  have e1 := bm_div hg k n
  have e2 := bm_mod hg k n
  have hs : bm (fun c => fb2 (g c)) (k + 1) n = 256 * bm (fun c => fb2 (g c)) k (n / 256) + fb2 (g (n % 256)) := rfl
  rw [hs, <- ih (n / 256), <- e1, <- e2]
  generalize bm g (k + 1) n = x
  simp only [rpb]
  rw [and_split _ _ _ (by omega), and_split _ _ _ (by omega), show x / 4 / 256 = x / 256 / 4 from by omega]
  have h := t2 ⟨x / 256 % 4, by omega⟩ ⟨x % 256, by omega⟩
  simp only at h
  rw [show x / 4 % 256 = 64 * (x / 256 % 4) + x % 256 / 4 from by omega, h]
  unfold fb2
  omega
theorem st3 (g : Nat -> Nat) (hg : ∀ c, c < 256 -> g c % 16 <= 4 /\ g c / 16 <= 4) (k n : Nat) : (bm g k n / 16 + bm g k n) &&& rpb 15 k = bm (fun c => fb3 (g c)) k n := by
 have hg2 : ∀ c, c < 256 -> g c < 256 := fun c hc => by have := hg c hc; omega
 induction k generalizing n with
 | zero => simp [rpb, bm]
 | succ k ih =>
  have e1 := bm_div hg2 k n
  have e2 := bm_mod hg2 k n
  have hs : bm (fun c => fb3 (g c)) (k + 1) n = 256 * bm (fun c => fb3 (g c)) k (n / 256) + fb3 (g (n % 256)) := rfl
  have hlow : bm g k (n / 256) % 16 <= 4 := by
   cases k with
   | zero => simp [bm]
   | succ k =>
    have := bm_mod hg2 k (n / 256)
    have h9 := hg (n / 256 % 256) (by omega)
    omega
  have hc := hg (n % 256) (by omega)
  rw [hs, <- ih (n / 256)]
  rw [<- e1] at hlow ⊢
  rw [<- e2] at hc ⊢
  generalize bm g (k + 1) n = x at *
  simp only [rpb]
  rw [and_split _ _ _ (by omega)]
  have d1 : (x / 16 + x) / 256 = x / 256 / 16 + x / 256 := by omega
  have d2 : (x / 16 + x) % 256 % 16 = fb3 (x % 256) := by unfold fb3; omega
  rw [d1]
  have d3 : (x / 16 + x) % 256 &&& 15 = (x / 16 + x) % 256 % 16 := Nat.and_two_pow_sub_one_eq_mod _ 4
  rw [d3, d2]
def fbp (c : Nat) : Nat := fb3 (fb2 (fb1 c))
theorem fbp_le (c : Nat) (h : c < 256) : fbp c <= 8 := (t3 ⟨c, h⟩).2.2.2
theorem bm_lt {g : Nat -> Nat} {m : Nat} (hg : ∀ c, c < 256 -> g c <= m) (n : Nat) (_ : m <= 68) : bm g 8 n <= m * 72340172838076673 := by
 simp only [bm]
 have h0 := hg (n % 256) (by omega)
 have h1 := hg (n / 256 % 256) (by omega)
 have h2 := hg (n / 256 / 256 % 256) (by omega)
 have h3 := hg (n / 256 / 256 / 256 % 256) (by omega)
 have h4 := hg (n / 256 / 256 / 256 / 256 % 256) (by omega)
 have h5 := hg (n / 256 / 256 / 256 / 256 / 256 % 256) (by omega)
 have h6 := hg (n / 256 / 256 / 256 / 256 / 256 / 256 % 256) (by omega)
 have h7 := hg (n / 256 / 256 / 256 / 256 / 256 / 256 / 256 % 256) (by omega)
 omega
theorem pn123 (n : Nat) : pn3 (pn2 (pn1 n)) = bm fbp 8 n := by
 have a1 : pn1 n = bm fb1 8 n := by
  unfold pn1
  have h := st1 8 n
  rw [show rpb 85 8 = 6148914691236517205 from rfl] at h
  rw [h]
  have hh : ∀ c, c < 256 -> fb1 c <= 255 := fun c hc => by have := (t3 ⟨c, hc⟩).1; simp only at this; omega
  apply Nat.mod_eq_of_lt
  simp only [bm]
  have h0 := hh (n % 256) (by omega)
  have h1 := hh (n / 256 % 256) (by omega)
  have h2 := hh (n / 256 / 256 % 256) (by omega)
  have h3 := hh (n / 256 / 256 / 256 % 256) (by omega)
  have h4 := hh (n / 256 / 256 / 256 / 256 % 256) (by omega)
  have h5 := hh (n / 256 / 256 / 256 / 256 / 256 % 256) (by omega)
  have h6 := hh (n / 256 / 256 / 256 / 256 / 256 / 256 % 256) (by omega)
  have h7 := hh (n / 256 / 256 / 256 / 256 / 256 / 256 / 256 % 256) (by omega)
  omega
 have hn : ∀ c, c < 256 -> fb2 (fb1 c) % 16 <= 4 /\ fb2 (fb1 c) / 16 <= 4 := fun c hc => ⟨(t3 ⟨c, hc⟩).2.1, (t3 ⟨c, hc⟩).2.2.1⟩
 have a2 : pn2 (pn1 n) = bm (fun c => fb2 (fb1 c)) 8 n := by
  rw [a1]
  unfold pn2
  have h := st2 fb1 (fun c hc => (t3 ⟨c, hc⟩).1) 8 n
  rw [show rpb 51 8 = 3689348814741910323 from rfl] at h
  rw [h]
  have := bm_lt (g := fun c => fb2 (fb1 c)) (m := 68) (fun c hc => by have := hn c hc; show fb2 (fb1 c) <= 68; omega) n (by omega)
  exact Nat.mod_eq_of_lt (by omega)
 rw [a2]
 unfold pn3
 have h := st3 (fun c => fb2 (fb1 c)) hn 8 n
 rw [show rpb 15 8 = 1085102592571150095 from rfl] at h
 have := bm_lt (g := fun c => fb2 (fb1 c)) (m := 68) (fun c hc => by have := hn c hc; show fb2 (fb1 c) <= 68; omega) n (by omega)
 rw [Nat.mod_eq_of_lt (by omega), h]
 rfl
theorem sum8 (b0 b1 b2 b3 b4 b5 b6 b7 : Nat) (h0 : b0 <= 8) (h1 : b1 <= 8) (h2 : b2 <= 8) (h3 : b3 <= 8) (h4 : b4 <= 8) (h5 : b5 <= 8) (h6 : b6 <= 8) (h7 : b7 <= 8) (x : Nat) (hx : x = 256 * (256 * (256 * (256 * (256 * (256 * (256 * b7 + b6) + b5) + b4) + b3) + b2) + b1) + b0) :
  pn6 (pn5 (pn4 x)) % 128 = b0 + b1 + b2 + b3 + b4 + b5 + b6 + b7 := by
 have e4 : pn4 x = 256 * (256 * (256 * (256 * (256 * (256 * (256 * b7 + (b6 + b7)) + (b5 + b6)) + (b4 + b5)) + (b3 + b4)) + (b2 + b3)) + (b1 + b2)) + (b0 + b1) := by unfold pn4; omega
 rw [e4]
 clear e4 hx
 have e5 : pn5 (256 * (256 * (256 * (256 * (256 * (256 * (256 * b7 + (b6 + b7)) + (b5 + b6)) + (b4 + b5)) + (b3 + b4)) + (b2 + b3)) + (b1 + b2)) + (b0 + b1)) = 256 * (256 * (256 * (256 * (256 * (256 * (256 * b7 + (b6 + b7)) + (b5 + b6 + b7)) + (b4 + b5 + b6 + b7)) + (b3 + b4 + b5 + b6)) + (b2 + b3 + b4 + b5)) + (b1 + b2 + b3 + b4)) + (b0 + b1 + b2 + b3) := by
  unfold pn5
  have d : (256 * (256 * (256 * (256 * (256 * (256 * (256 * b7 + (b6 + b7)) + (b5 + b6)) + (b4 + b5)) + (b3 + b4)) + (b2 + b3)) + (b1 + b2)) + (b0 + b1)) / 65536 = 256 * (256 * (256 * (256 * (256 * b7 + (b6 + b7)) + (b5 + b6)) + (b4 + b5)) + (b3 + b4)) + (b2 + b3) := by
   rw [show (65536 : Nat) = 256 * 256 from rfl, <- Nat.div_div_eq_div_mul]
   omega
  rw [d, Nat.mod_eq_of_lt (by omega)]
  omega
 rw [e5]
 clear e5
 unfold pn6
 have d : (256 * (256 * (256 * (256 * (256 * (256 * (256 * b7 + (b6 + b7)) + (b5 + b6 + b7)) + (b4 + b5 + b6 + b7)) + (b3 + b4 + b5 + b6)) + (b2 + b3 + b4 + b5)) + (b1 + b2 + b3 + b4)) + (b0 + b1 + b2 + b3)) / 4294967296 = 256 * (256 * (256 * b7 + (b6 + b7)) + (b5 + b6 + b7)) + (b4 + b5 + b6 + b7) := by
  rw [show (4294967296 : Nat) = 256 * 256 * 256 * 256 from rfl, <- Nat.div_div_eq_div_mul, <- Nat.div_div_eq_div_mul, <- Nat.div_div_eq_div_mul]
  omega
 rw [Nat.mod_mod_of_dvd _ (by decide), d]
 clear d
 generalize 256 * (256 * (256 * (256 * (256 * (256 * b7 + (b6 + b7)) + (b5 + b6 + b7)) + (b4 + b5 + b6 + b7)) + (b3 + b4 + b5 + b6)) + (b2 + b3 + b4 + b5)) + (b1 + b2 + b3 + b4) = AA
 generalize 256 * (256 * b7 + (b6 + b7)) + (b5 + b6 + b7) = BB
 omega
theorem pnz_two {n : Nat} (hn : n < 18446744073709551616) (h : pnz n = 1) : ∃ k, n = 2 ^ k := by
 obtain ⟨c0, e0⟩ : ∃ c, c = n % 256 := ⟨_, rfl⟩
 obtain ⟨c1, e1⟩ : ∃ c, c = n / 256 % 256 := ⟨_, rfl⟩
 obtain ⟨c2, e2⟩ : ∃ c, c = n / 256 / 256 % 256 := ⟨_, rfl⟩
 obtain ⟨c3, e3⟩ : ∃ c, c = n / 256 / 256 / 256 % 256 := ⟨_, rfl⟩
 obtain ⟨c4, e4⟩ : ∃ c, c = n / 256 / 256 / 256 / 256 % 256 := ⟨_, rfl⟩
 obtain ⟨c5, e5⟩ : ∃ c, c = n / 256 / 256 / 256 / 256 / 256 % 256 := ⟨_, rfl⟩
 obtain ⟨c6, e6⟩ : ∃ c, c = n / 256 / 256 / 256 / 256 / 256 / 256 % 256 := ⟨_, rfl⟩
 obtain ⟨c7, e7⟩ : ∃ c, c = n / 256 / 256 / 256 / 256 / 256 / 256 / 256 % 256 := ⟨_, rfl⟩
 have hs : pnz n = fbp c0 + fbp c1 + fbp c2 + fbp c3 + fbp c4 + fbp c5 + fbp c6 + fbp c7 := by
  unfold pnz
  rw [pn123]
  refine sum8 _ _ _ _ _ _ _ _ (fbp_le _ (by omega)) (fbp_le _ (by omega)) (fbp_le _ (by omega)) (fbp_le _ (by omega)) (fbp_le _ (by omega)) (fbp_le _ (by omega)) (fbp_le _ (by omega)) (fbp_le _ (by omega)) _ ?_
  simp only [bm, <- e0, <- e1, <- e2, <- e3, <- e4, <- e5, <- e6, <- e7]
  omega
 rw [h] at hs
 have hz : ∀ c, c < 256 -> fbp c = 0 -> c = 0 := fun c hc h0 => t4 ⟨c, hc⟩ h0
 have ho : ∀ c, c < 256 -> fbp c = 1 -> ∃ j, j < 8 /\ c = 2 ^ j := fun c hc h1 => by
  rcases t5 ⟨c, hc⟩ h1 with h | h | h | h | h | h | h | h
  ·exact ⟨0, by omega, h⟩
  ·exact ⟨1, by omega, h⟩
  ·exact ⟨2, by omega, h⟩
  ·exact ⟨3, by omega, h⟩
  ·exact ⟨4, by omega, h⟩
  ·exact ⟨5, by omega, h⟩
  ·exact ⟨6, by omega, h⟩
  ·exact ⟨7, by omega, h⟩
 have l0 : c0 < 256 := by omega
 have l1 : c1 < 256 := by omega
 have l2 : c2 < 256 := by omega
 have l3 : c3 < 256 := by omega
 have l4 : c4 < 256 := by omega
 have l5 : c5 < 256 := by omega
 have l6 : c6 < 256 := by omega
 have l7 : c7 < 256 := by omega
 have hN : n = c0 + 256 * c1 + 65536 * c2 + 16777216 * c3 + 4294967296 * c4 + 1099511627776 * c5 + 281474976710656 * c6 + 72057594037927936 * c7 := by omega
 clear e0 e1 e2 e3 e4 e5 e6 e7 h hn
 have z0 := hz c0 l0
 have z1 := hz c1 l1
 have z2 := hz c2 l2
 have z3 := hz c3 l3
 have z4 := hz c4 l4
 have z5 := hz c5 l5
 have z6 := hz c6 l6
 have z7 := hz c7 l7
 have o0 := ho c0 l0
 have o1 := ho c1 l1
 have o2 := ho c2 l2
 have o3 := ho c3 l3
 have o4 := ho c4 l4
 have o5 := ho c5 l5
 have o6 := ho c6 l6
 have o7 := ho c7 l7
 generalize fbp c0 = b0 at *
 generalize fbp c1 = b1 at *
 generalize fbp c2 = b2 at *
 generalize fbp c3 = b3 at *
 generalize fbp c4 = b4 at *
 generalize fbp c5 = b5 at *
 generalize fbp c6 = b6 at *
 generalize fbp c7 = b7 at *
 have hc : b0 = 1 ∨ b1 = 1 ∨ b2 = 1 ∨ b3 = 1 ∨ b4 = 1 ∨ b5 = 1 ∨ b6 = 1 ∨ b7 = 1 := by omega
 rcases hc with h | h | h | h | h | h | h | h
 ·obtain ⟨j, _, hj⟩ := o0 h
  exact ⟨j, by rw [hN, z1 (by omega), z2 (by omega), z3 (by omega), z4 (by omega), z5 (by omega), z6 (by omega), z7 (by omega), hj]; omega⟩
 ·obtain ⟨j, _, hj⟩ := o1 h
  exact ⟨j + 8, by rw [hN, z0 (by omega), z2 (by omega), z3 (by omega), z4 (by omega), z5 (by omega), z6 (by omega), z7 (by omega), hj, Nat.pow_add]; omega⟩
 ·obtain ⟨j, _, hj⟩ := o2 h
  exact ⟨j + 16, by rw [hN, z0 (by omega), z1 (by omega), z3 (by omega), z4 (by omega), z5 (by omega), z6 (by omega), z7 (by omega), hj, Nat.pow_add]; omega⟩
 ·obtain ⟨j, _, hj⟩ := o3 h
  exact ⟨j + 24, by rw [hN, z0 (by omega), z1 (by omega), z2 (by omega), z4 (by omega), z5 (by omega), z6 (by omega), z7 (by omega), hj, Nat.pow_add]; omega⟩
 ·obtain ⟨j, _, hj⟩ := o4 h
  exact ⟨j + 32, by rw [hN, z0 (by omega), z1 (by omega), z2 (by omega), z3 (by omega), z5 (by omega), z6 (by omega), z7 (by omega), hj, Nat.pow_add]; omega⟩
 ·obtain ⟨j, _, hj⟩ := o5 h
  exact ⟨j + 40, by rw [hN, z0 (by omega), z1 (by omega), z2 (by omega), z3 (by omega), z4 (by omega), z6 (by omega), z7 (by omega), hj, Nat.pow_add]; omega⟩
 ·obtain ⟨j, _, hj⟩ := o6 h
  exact ⟨j + 48, by rw [hN, z0 (by omega), z1 (by omega), z2 (by omega), z3 (by omega), z4 (by omega), z5 (by omega), z7 (by omega), hj, Nat.pow_add]; omega⟩
 ·obtain ⟨j, _, hj⟩ := o7 h
  exact ⟨j + 56, by rw [hN, z0 (by omega), z1 (by omega), z2 (by omega), z3 (by omega), z4 (by omega), z5 (by omega), z6 (by omega), hj, Nat.pow_add]; omega⟩
theorem ones64_all (n : Nat) (w : World) (h1 : n < 18446744073709551616) : Calls Tryz.prog 150 #[.int .u64 n] w fun e w' => e = .returned (.int .i64 (pnz n)) /\ w' = w := by
 have HZ := hid (oaz_nat n h1)
 go_enter Tryz.func150, Tryz.ntmps150
 go_wp2
 go_ret
 exact ⟨ret_int HZ.out, rfl⟩
def vrs (n : Nat) : Int := match (List.range 13).find? (fun v => n == 2 ^ v) with
 | some v => v
 | none => -1
theorem vrs_yes {n v : Nat} (hv : v <= 12) (h : n = 2 ^ v) : vrs n = v := by
 unfold vrs
 have e : (List.range 13).find? (fun u => n == 2 ^ u) = some v := by
  rw [List.find?_range_eq_some]
  refine ⟨by simpa using h, by simp; omega, fun j hj => ?_⟩
  have := Nat.pow_lt_pow_right (a := 2) (by omega) hj
  simp
  omega
 rw [e]
theorem vrs_no {n : Nat} (h : ∀ v, v <= 12 -> n ≠ 2 ^ v) : vrs n = -1 := by
 unfold vrs
 have e : (List.range 13).find? (fun u => n == 2 ^ u) = none := by
  rw [List.find?_eq_none]
  intro u hu
  simp at hu
  simpa using h u (by omega)
 rw [e]
theorem vrs_of {n : Nat} (h : 0 <= vrs n) : ∃ v : Nat, v <= 12 /\ n = 2 ^ v /\ vrs n = v := by
 by_cases e : ∃ v : Nat, v <= 12 /\ n = 2 ^ v
 ·obtain ⟨v, h1, h2⟩ := e
  exact ⟨v, h1, h2, vrs_yes h1 h2⟩
 ·have := vrs_no (n := n) (fun v hv h2 => e ⟨v, hv, h2⟩)
  omega
theorem rvars_any (n cap : Nat) (a : Option Addr) (w : World) :
  Calls Tryz.prog 9 #[.slice a n cap] w fun e w' => e = .returned (.int .i64 (vrs n)) /\ w' = w := by
 go_enter Tryz.func9, Tryz.ntmps9
 go_wp2_with fail
 go_loop [3, 4] (fun xv iv => ∃ k M : Nat, k <= 13 /\ iv = .int .i64 k /\ xv = .int .i64 (M : Int) /\ M <= 8192 /\ Hid (M = 2 ^ k /\ ∀ u, u < k -> n ≠ 2 ^ u)) (fun _ iv => 13 - (intOf iv).toNat)
 case atStart => exact ⟨0, 1, by omega, rfl, rfl, by omega, rfl, fun u hu => by omega⟩
 case round =>
  obtain ⟨k, M, hk, rfl, rfl, hM, hI⟩ := hrel
  by_cases hlt : k <= 12
  ·have hlt2 : (k : Int) <= 12 := by omega
   have hks : IntKind.i64.wrap ((k : Int) + 1) = (k : Int) + 1 := by rw [IntKind.wrap_i64]; omega
   by_cases he : n = M
   ·have he2 : ((n : Int) == (M : Int)) = true := by simp [he]
    have HE : Hid (vrs n = k) := vrs_yes hlt (by rw [he]; exact hI.out.1)
    clear hI he
    go_wp2_with fail
    go_ret
    exact ⟨by rw [HE.out]; rfl, rfl⟩
   ·have he2 : ((n : Int) == (M : Int)) = false := by simp; omega
    have hM2 : M * 2 <= 8192 := by
     have h1 := hI.out.1
     have : 2 ^ k <= 2 ^ 12 := Nat.pow_le_pow_right (by omega) hlt
     omega
    have hw : IntKind.i64.wrap ((M : Int) * 2) = (M : Int) * 2 := by rw [IntKind.wrap_i64]; omega
    have HI2 : Hid (M * 2 = 2 ^ (k + 1) /\ ∀ u, u < k + 1 -> n ≠ 2 ^ u) := by
     refine ⟨by rw [Nat.pow_succ, <- hI.out.1], fun u hu => ?_⟩
     by_cases e : u = k
     ·rw [e, <- hI.out.1]; exact he
     ·exact hI.out.2 u (by omega)
    clear hI he
    go_wp2_with fail
    go_round
    case rel => exact ⟨k + 1, M * 2, by omega, by go_num, by go_num, hM2, HI2⟩
    case measure => simp [intOf]; omega
  ·have hlt2 : ¬ (k : Int) <= 12 := by omega
   have HE : Hid (vrs n = -1) := vrs_no (fun v hv => hI.out.2 v (by omega))
   clear hI
   go_wp2_with fail
   go_ret
   exact ⟨by rw [HE.out]; rfl, rfl⟩
def ovr (rows : List (List Int)) : Int := if 1 <= rows.length /\ rows.length <= 4 /\ ∀ k, k < rows.length -> (rat rows k).length = (rat rows 0).length then vrs (rat rows 0).length else -1
end Go.Proofs.YtlhjifpomchnfaaGreatDoor
