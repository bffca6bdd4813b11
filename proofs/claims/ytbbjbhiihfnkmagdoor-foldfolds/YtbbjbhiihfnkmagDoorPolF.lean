/- What package poly's Vanish and its helpers answer. -/
import Derived.Test.YtbbjbhiihfnkmagDoorPolDiv
import Derived.Deep.RegionWith
namespace Go.Proofs.YtbbjbhiihfnkmagDoor
open Go.RowKit

/-- what stands a place ahead -/
def bef (f : Nat → Int) (i : Nat) : Int := if i = 0 then 0 else f (i - 1)

/-- the last k of the first L places multiplied by x - root -/
def trf (p : Nat) (f : Nat → Int) (x : Int) (L k : Nat) : Nat → Int := fun j => if L - k ≤ j ∧ j < L then (bef f j - f j * x % (p : Int)) % (p : Int) else f j
theorem trf_zero (p : Nat) (f : Nat → Int) (x : Int) (L : Nat) : trf p f x L 0 = f := by
  funext j; unfold trf; rw [if_neg (by omega)]
theorem trf_succ (p : Nat) (f : Nat → Int) (x : Int) (L k : Nat) (hk : k < L) : up (trf p f x L k) (L - 1 - k) ((bef f (L - 1 - k) - f (L - 1 - k) * x % (p : Int)) % (p : Int)) = trf p f x L (k + 1) := by
  funext j; unfold up trf
  by_cases h : j = L - 1 - k
  · rw [if_pos h, if_pos (by omega), h]
  · rw [if_neg h]
    by_cases h2 : L - k ≤ j ∧ j < L
    · rw [if_pos h2, if_pos (by omega)]
    · rw [if_neg h2, if_neg (by omega)]
theorem trf_at (p : Nat) (f : Nat → Int) (x : Int) (L k j : Nat) (h : j < L - k) : trf p f x L k j = f j := by unfold trf; rw [if_neg (by omega)]

theorem before_any (g L cap i : Nat) (f : Nat → Int) (w : World) (hi : i < L) (hL : L ≤ 281474976710656) (hc : 0 < i → w.cell? ⟨g, i - 1, none⟩ = some (.int .i64 (f (i - 1)))) :
    Calls Tryd.prog 131 #[.slice (some ⟨g, 0, none⟩) L cap, .int .i64 i] w fun e w' => e = .returned (.int .i64 (bef f i)) ∧ w' = w := by
  by_cases h0 : i = 0
  · subst h0
    clear hc
    go_enter Tryd.func131, Tryd.ntmps131
    go_wp2_with fail
    go_ret
    exact ⟨ret_int rfl, rfl⟩
  · have hb : ((i : Int) == 0) = false := by rw [beq_eq_false_iff_ne]; omega
    have hcell := hc (by omega)
    have HV : Hid (bef f i = f (i - 1)) := by unfold Hid bef; rw [if_neg h0]
    obtain ⟨j, hj⟩ : ∃ j, j = i - 1 := ⟨_, rfl⟩
    have e1 : (i : Int) - 1 = (j : Int) := by omega
    have e2 : (j : Int) < (L : Int) := by omega
    rw [← hj] at hcell HV
    clear h0 hc hj
    generalize f j = y at *
    go_enter Tryd.func131, Tryd.ntmps131
    go_wp2_with fail
    go_ret
    exact ⟨ret_int HV.out.symm, rfl⟩

set_option maxHeartbeats 4000000 in
theorem troot_any (p b g n L cap : Nat) (f : Nat → Int) (x : Int) (w : World) (h3 : 3 ≤ p) (hm : p ≤ 2147483647) (hp : w.cell? ⟨b, 0, none⟩ = some (.int .i64 p)) (hbg : b ≠ g)
    (hn : n ≤ 281474976710656) (hL : L ≤ n) (hf : ∀ j, j < n → 0 ≤ f j ∧ f j < p) (hx1 : -9223372036854775808 ≤ x) (hx2 : x ≤ 9223372036854775807) (hC : Cells g 0 n f w) :
    Calls Tryd.prog 104 #[.pointer (some ⟨b, 0, none⟩), .slice (some ⟨g, 0, none⟩) L cap, .int .i64 x] w fun e w' =>
      e = .returned (.tuple #[]) ∧ Cells g 0 n (trf p f x L L) w' ∧ Only g w w' := by
  have HF := hid hf
  have HC0 := hid hC
  clear hf hC
  go_enter Tryd.func104, Tryd.ntmps104
  go_wp2_with fail
  go_loopw [10] (fun iv wr => ∃ (k : Nat), k ≤ L ∧ iv = .int .i64 k ∧ Hid (Cells g 0 n (trf p f x L k) wr) ∧ Hid (Only g w wr))
    (fun iv _ => L - (intOf iv).toNat)
  case atStart => exact ⟨0, Nat.zero_le _, rfl, by rw [trf_zero]; exact HC0, Only.refl _ _⟩
  case round =>
    obtain ⟨k, hk, rfl, hout, honly⟩ := hrel
    by_cases hlt : k < L
    · have hlt2 : (k : Int) < (L : Int) := by omega
      have HS := hid (trf_succ p f x L k hlt)
      obtain ⟨i, hi⟩ : ∃ i, i = L - 1 - k := ⟨_, rfl⟩
      rw [← hi] at HS
      have e1 : (L : Int) - 1 - (k : Int) = (i : Int) := by omega
      have e2 : (i : Int) < (L : Int) := by omega
      have hin : i < n := by omega
      have hok := hout.out.cells i hin
      have hos := hout.out.soft i hin
      rw [Nat.zero_add] at hok hos
      rw [trf_at p f x L k i (by omega)] at hok
      have hpc := (honly.out.cell (p := ⟨b, 0, none⟩) hbg).trans hp
      obtain ⟨hf1, hf2⟩ := HF.out i hin
      have hbf : 0 ≤ bef f i ∧ bef f i < p := by
        unfold bef
        split
        · omega
        · exact HF.out (i - 1) (by omega)
      have HBF : Hid (∀ W : World, Only g wr W → W.heap[g]? = wr.heap[g]? → Calls Tryd.prog 131 #[.slice (some ⟨g, 0, none⟩) L cap, .int .i64 i] W fun e w' => e = .returned (.int .i64 (bef f i)) ∧ w' = W) := fun W _ hb =>
        before_any g L cap i f W (by omega) (by omega) (fun h0 => by
          have := (hout.out.block hb).cells (i - 1) (by omega)
          rw [Nat.zero_add, trf_at p f x L k (i - 1) (by omega)] at this
          exact this)
      obtain ⟨hb1, hb2⟩ := emod_bounds (f i * x) p h3
      have HM : Hid (∀ w1 : World, w1.cell? ⟨b, 0, none⟩ = some (.int .i64 p) → Calls Tryd.prog 29 #[.pointer (some ⟨b, 0, none⟩), .int .i64 (f i), .int .i64 x] w1 fun e w' => e = .returned (.int .i64 (f i * x % p)) ∧ w' = w1) :=
        fun w1 h => mul_any p b _ _ w1 h3 hm h (by omega) (by omega) hx1 hx2
      have HA : Hid (∀ w1 : World, w1.cell? ⟨b, 0, none⟩ = some (.int .i64 p) → Calls Tryd.prog 28 #[.pointer (some ⟨b, 0, none⟩), .int .i64 (bef f i), .int .i64 (f i * x % (p : Int))] w1 fun e w' => e = .returned (.int .i64 ((bef f i - f i * x % (p : Int)) % p)) ∧ w' = w1) :=
        fun w1 h => sub_any p b _ _ w1 h3 hm h (by omega) (by omega) (by omega) (by omega)
      have HC := hid (hout.out.set ((bef f i - f i * x % (p : Int)) % (p : Int)) hin)
      have HB := hid (honly.out.setCell (p := ⟨g, 0 + i, none⟩) rfl (.int .i64 ((bef f i - f i * x % (p : Int)) % (p : Int))))
      rw [show up (trf p f x L k) i ((bef f i - f i * x % (p : Int)) % (p : Int)) = trf p f x L (k + 1) from HS.out, Nat.zero_add] at HC
      rw [Nat.zero_add] at HB
      clear HS hi
      generalize (bef f i - f i * x % (p : Int)) % (p : Int) = z at *
      generalize f i * x % (p : Int) = yx at *
      generalize bef f i = bf at *
      generalize f i = fi at *
      go_wp2_with fail
      go_region_with (first
        | (go_at_call 131; refine (HBF.out _ ?_ ?_).mono ?_; exact (Only.refl _ _).drew; rfl; rintro e w1 ⟨rfl, rfl⟩)
        | (go_at_call 29; refine (HM.out _ ?_).mono ?_; exact hpc; rintro e w1 ⟨rfl, rfl⟩)
        | (go_at_call 28; refine (HA.out _ ?_).mono ?_; exact hpc; rintro e w1 ⟨rfl, rfl⟩))
      all_goals
        go_wp2_with fail
        go_roundw
        case rel => exact ⟨k + 1, by omega, by go_num, HC.out.drew, HB.out.drew⟩
        case measure => simp [intOf]; omega
    · have hlt2 : ¬ (k : Int) < (L : Int) := by omega
      obtain rfl : k = L := by omega
      go_wp2_with fail
      go_end0
      exact ⟨rfl, hout.out, honly.out⟩

/-- the product of x - xs[i] of the first n, modulo p -/
def vn (p : Nat) (xs : List Int) (n : Nat) : Nat → Int := fun j => Pol.van (zat xs) n j % (p : Int)
theorem vn_zero (p : Nat) (xs : List Int) (h3 : 3 ≤ p) : vn p xs 0 = fun j => if j = 0 then 1 else 0 := by
  funext j; unfold vn; simp only [Pol.van, Pol.one]
  split
  · exact Int.emod_eq_of_lt (by omega) (by omega)
  · simp
theorem vn_succ (p : Nat) (xs : List Int) (n : Nat) : trf p (vn p xs n) (zat xs n) (n + 2) (n + 2) = vn p xs (n + 1) := by
  funext j
  unfold trf bef vn
  rw [Pol.van, Pol.mul_lin]
  simp only [Pol.sub, Pol.sh, Pol.sc]
  by_cases h : j < n + 2
  · rw [if_pos (by omega)]
    by_cases h0 : j = 0
    · subst h0
      rw [if_pos rfl, if_pos (by omega), Int.sub_emod 0, Int.emod_emod_of_dvd _ (Int.dvd_refl _), Int.mul_emod, Int.emod_emod_of_dvd _ (Int.dvd_refl _), ← Int.mul_emod, ← Int.sub_emod, Int.mul_comm]
    · rw [if_neg h0, if_neg (by omega), Int.sub_emod, Int.emod_emod_of_dvd _ (Int.dvd_refl _), Int.emod_emod_of_dvd _ (Int.dvd_refl _), Int.mul_emod, Int.emod_emod_of_dvd _ (Int.dvd_refl _), ← Int.mul_emod, ← Int.sub_emod, Int.mul_comm]
  · rw [if_neg (by omega), if_neg (by omega), Pol.van_zero _ _ _ (by omega), Pol.van_zero _ _ _ (by omega)]; simp
theorem vn_bounds (p : Nat) (xs : List Int) (n j : Nat) (h3 : 3 ≤ p) : 0 ≤ vn p xs n j ∧ vn p xs n j < p := emod_bounds _ p h3

/-- the list of Vanish -/
def pvan (p : Nat) (xs : List Int) : List Int := Pol.mk p (Pol.van (zat xs) xs.length) (xs.length + 1)
theorem pvan_list {p : Nat} (h3 : 3 ≤ p) (xs : List Int) : (pvan p xs).length = xs.length + 1 ∧ ∀ j, j < xs.length + 1 → zat (pvan p xs) j = vn p xs xs.length j := by
  have hl : (pvan p xs).length = xs.length + 1 := by
    rw [pvan, Pol.mk_length]
    refine Pol.tp_unique p _ _ _ (Nat.le_refl _) (fun j h1 h2 => by omega) (fun _ => ?_)
    rw [Nat.add_sub_cancel, Pol.van_top, Int.emod_eq_of_lt (by omega) (by omega)]
    omega
  refine ⟨hl, fun j hj => ?_⟩
  rw [← hl, pvan, Pol.mk_length] at hj
  exact Pol.mk_at p _ _ j hj

set_option maxHeartbeats 4000000 in
theorem vanish_any (p b cap : Nat) (a : Option Addr) (xs : List Int) (w : World) (h3 : 3 ≤ p) (hm : p ≤ 2147483647) (hp : w.cell? ⟨b, 0, none⟩ = some (.int .i64 p))
    (hn : xs.length ≤ 17592186043904) (hfit : Fits xs) (hrow : RowB w.heap.size w a xs) :
    Calls Tryd.prog 76 #[.pointer (some ⟨b, 0, none⟩), .slice a xs.length cap] w fun e w' => e = .returned (.slice (some ⟨w.heap.size, 0, none⟩) (pvan p xs).length (pvan p xs).length) ∧
      Cells w.heap.size 0 (pvan p xs).length (zat (pvan p xs)) w' ∧ Below w.heap.size w w' ∧ w'.heap.size = w.heap.size + 1 := by
  have hb : b < w.heap.size := heap_lt hp
  obtain ⟨hl, hz⟩ := pvan_list h3 xs
  rw [hl]
  have HZ := hid hz
  have HF := hid hfit
  have HR := hid hrow
  clear hz hl hfit hrow
  have hmk := fun n h1 h2 w => run_make_row' (P := Tryd.prog) 23 3 (.int .i64 0) 8 Tryd.underlying23 Tryd.infoInt rfl .i64 .i64 n h1 h2 w
  have hmk2 := hmk (xs.length + 1) (by omega) (by omega)
  clear hmk
  obtain ⟨m, hmd⟩ : ∃ m, m = xs.length + 1 := ⟨_, rfl⟩
  rw [← hmd] at hmk2 HZ ⊢
  have HMD := hid hmd
  have e0 : (xs.length : Int) + 1 = (m : Int) := by omega
  have e1 : (0 : Int) < (m : Int) := by omega
  have hml : m ≤ 17592186043905 := by omega
  clear hmd
  have hc0 : (w.alloc (.cells (madeCells #[.int .i64 0] m) 3)).cell? ⟨w.heap.size, 0, none⟩ = some (.int .i64 0) := by
    rw [World.cell?_alloc_at _ _ _ _ (by simp)]
    simp [madeCells, Nat.mod_one, show 0 < m by omega]
  have hs0 : (w.alloc (.cells (madeCells #[.int .i64 0] m) 3)).frozen? ⟨w.heap.size, 0, none⟩ = false := by simp
  go_enter Tryd.func76, Tryd.ntmps76
  go_wp2_with fail
  go_loopw [16] (fun iv wr => ∃ (k : Nat), k ≤ xs.length ∧ iv = .int .i64 k ∧ Hid (Cells w.heap.size 0 m (vn p xs k) wr) ∧ Hid (Below w.heap.size w wr) ∧ wr.heap.size = w.heap.size + 1)
    (fun iv _ => xs.length - (intOf iv).toNat)
  case atStart =>
    refine ⟨0, Nat.zero_le _, rfl, ⟨fun j hj => ?_, fun j hj => by simp⟩, (Below.refl w.heap.size w).alloc (Nat.le_refl _) _, by simp⟩
    rw [World.cell?_alloc_at _ _ _ _ (by simp), vn_zero p xs h3]
    by_cases h0 : j = 0
    · subst h0; simp [madeCells, hj]
    · simp [madeCells, hj, Nat.mod_one, h0, show ¬ 0 = j from fun e => h0 e.symm]
  case round =>
    obtain ⟨k, hk, rfl, hout, hbel, hsz⟩ := hrel
    by_cases hlt : k < xs.length
    · have hlt2 : (k : Int) < (xs.length : Int) := by omega
      obtain ⟨bl, ol, rfl, hbl, hcl⟩ := HR.out k hlt
      have hcl2 := (hbel.out.cell (p := ⟨bl, ol + k, none⟩) hbl).trans hcl
      obtain ⟨hx1, hx2⟩ := HF.out k hlt
      have hpc := (hbel.out.cell (p := ⟨b, 0, none⟩) hb).trans hp
      have hkm : k + 2 ≤ m := by have := HMD.out; omega
      have HT := hid (troot_any p b w.heap.size m (k + 2) m (vn p xs k) (zat xs k) wr h3 hm hpc (by omega) (by omega) hkm (fun j _ => vn_bounds p xs k j h3) hx1 hx2 hout.out)
      rw [vn_succ] at HT
      obtain ⟨L, hL⟩ : ∃ L, L = k + 2 := ⟨_, rfl⟩
      rw [← hL] at HT
      have e2 : (k : Int) + 2 = (L : Int) := by omega
      have e3 : (L : Int) ≤ (m : Int) := by omega
      have hLl : L ≤ m := by omega
      clear hL hcl
      generalize zat xs k = x at *
      go_wp2_with fail
      refine HT.out.mono ?_
      rintro e w2 ⟨rfl, hc2, ho2⟩
      have HC2 := hid hc2
      have HB2 : Hid (Below w.heap.size w w2) := hbel.out.trans (ho2.below (Nat.le_refl _))
      have hs2 : w2.heap.size = w.heap.size + 1 := by rw [ho2.size]; exact hsz
      clear hc2 ho2
      go_wp2_with fail
      go_roundw
      case rel => exact ⟨k + 1, by omega, by go_num, HC2, HB2, hs2⟩
      case measure => simp [intOf]; omega
    · have hlt2 : ¬ (k : Int) < (xs.length : Int) := by omega
      obtain rfl : k = xs.length := by omega
      go_wp2_with fail
      go_ret
      exact ⟨rfl, hout.out.congr (fun j hj => (HZ.out j hj).symm), hbel.out, hsz⟩

end Go.Proofs.YtbbjbhiihfnkmagDoor
