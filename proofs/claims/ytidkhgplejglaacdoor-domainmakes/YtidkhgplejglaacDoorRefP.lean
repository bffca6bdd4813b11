/- What package attestref1 answers of polynomials: Degree, All, Trim, At, Plus, Scaled, Minus, Times, for every list. -/
import Derived.Test.YtidkhgplejglaacDoorPolB
import Derived.Test.YtidkhgplejglaacDoorOwns
namespace Go.Proofs.YtidkhgplejglaacDoor
open Go.RowKit

theorem heap_lt {w : World} {b : Nat} {v : Value} (hp : w.cell? ⟨b, 0, none⟩ = some v) : b < w.heap.size := by
  rcases Nat.lt_or_ge b w.heap.size with g | g
  · exact g
  · simp [World.cell?, Array.getElem?_eq_none g] at hp

set_option maxHeartbeats 400000 in
theorem rdeg_any (p n cap : Nat) (P : Nat → Prop) (a : Option Addr) (f : Nat → Int) (w : World) (h3 : 3 ≤ p) (hm : p ≤ 2147483647)
    (hn : n ≤ 9223372036854775807) (hfit : FitsF n f) (hrow : RowF P w a n f) :
    Calls Tryd.prog 37 #[.int .i64 p, .slice a n cap] w fun e w' => e = .returned (.int .i64 ((tpn p f n : Int) - 1)) ∧ w' = w := by
  have HF := hid hfit
  have HR := hid hrow
  clear hfit hrow
  go_enter Tryd.func37, Tryd.ntmps37
  go_wp2_with fail
  go_loop [5] (fun iv => ∃ k : Nat, k ≤ n ∧ iv = .int .i64 ((k : Int) - 1) ∧ Hid (tpn p f n = tpn p f k)) (fun iv => (intOf iv + 1).toNat)
  case atStart => exact ⟨n, Nat.le_refl _, rfl, rfl⟩
  case round =>
    obtain ⟨k, hk, rfl, hT⟩ := hrel
    cases k with
    | zero =>
      have e0 : Hid ((tpn p f n : Int) - 1 = -1) := by unfold Hid; rw [hT.out]; rfl
      go_wp2_with fail
      go_ret
      exact ⟨ret_int e0.out.symm, rfl⟩
    | succ j =>
      have hj : j < n := by omega
      have e1 : (((j + 1 : Nat) : Int) - 1) = (j : Int) := by omega
      rw [e1]
      have hj0 : (0 : Int) ≤ (j : Int) := by omega
      have hjn : (j : Int) < (n : Int) := by omega
      obtain ⟨bl, ol, rfl, _, hcl⟩ := HR.out j hj
      obtain ⟨hx1, hx2⟩ := HF.out j hj
      have HS : Hid (f j % (p : Int) = 0 → tpn p f (j + 1) = tpn p f j) := fun h => by unfold tpn; rw [Pol.tp, if_pos h]
      have HE : Hid (f j % (p : Int) ≠ 0 → tpn p f (j + 1) = j + 1) := fun h => by unfold tpn; rw [Pol.tp, if_neg h]
      generalize f j = x at *
      clear e1
      go_wp2_with fail
      refine (rof_any p x w h3 hm hx1 hx2).mono ?_
      rintro e w1 ⟨rfl, rfl⟩
      by_cases hz : x % (p : Int) = 0
      · have hzb : (x % (p : Int) != 0) = false := by rw [hz]; rfl
        have HS2 := hid (hT.out.trans (HS.out hz))
        clear hz HS HE
        go_wp2_with fail
        go_round
        case rel => exact ⟨j, by omega, rfl, HS2⟩
        case measure => simp [intOf]
      · have hzb : (x % (p : Int) != 0) = true := by rw [bne_iff_ne]; exact hz
        have HS2 := hid (hT.out.trans (HE.out hz))
        clear hz HS HE
        go_wp2_with fail
        go_ret
        exact ⟨ret_int (by rw [HS2.out]; omega), rfl⟩

set_option maxHeartbeats 1000000 in
theorem rall_any (p n cap : Nat) (a : Option Addr) (f : Nat → Int) (w : World) (h3 : 3 ≤ p) (hm : p ≤ 2147483647)
    (hn : n ≤ 17592186044416) (hfit : FitsF n f) (hrow : RowF (· < w.heap.size) w a n f) :
    Calls Tryd.prog 22 #[.int .i64 p, .slice a n cap] w fun e w' => ∃ a' c', e = .returned (.slice a' n c') ∧ Lst w'.heap.size w' a' c' (ls (fun j => f j % (p : Int)) n) ∧ Below w.heap.size w w' := by
  obtain ⟨i0, hi, hz0, hz1, hz2⟩ := info_parts Tryd.infoInt
  have HF := hid hfit
  have HR := hid hrow
  clear hfit hrow
  go_enter Tryd.func22, Tryd.ntmps22
  go_wp2_with fail
  go_loopw [5, 6] (fun v iv wr => ∃ k : Nat, k ≤ n ∧ iv = .int .i64 k ∧ wr.ownsRow w.heap.size 3 1 v (ls (fun j => f j % (p : Int)) k).length ((ls (fun j => f j % (p : Int)) k).map (Value.int .i64)) ∧ Below w.heap.size w wr)
    (fun _ iv _ => n - (intOf iv).toNat)
  case atStart => exact ⟨0, Nat.zero_le _, rfl, World.ownsRow_nil _ _ _ _, Below.refl _ _⟩
  case round =>
    obtain ⟨k, hk, rfl, hown, hbel⟩ := hrel
    have hsz := hbel.size
    by_cases hlt : k < n
    · have hlt2 : (k : Int) < (n : Int) := by omega
      obtain ⟨bl, ol, rfl, hbl, hcl⟩ := HR.out k hlt
      have hcl2 := (hbel.cell (p := ⟨bl, ol + k, none⟩) hbl).trans hcl
      obtain ⟨hx1, hx2⟩ := HF.out k hlt
      have HLS := hid (ls_succ (fun j => f j % (p : Int)) k)
      have HLL := hid (ls_len (fun j => f j % (p : Int)) k)
      generalize f k = x at *
      clear hcl
      go_wp2_with fail
      refine (rof_any p x _ h3 hm hx1 hx2).mono ?_
      rintro e w1 ⟨rfl, rfl⟩
      generalize ls (fun j => f j % (p : Int)) k = lk at *
      go_wp2_with (at_builtin; refine wpList_append_own _ rfl _ _ 27 rfl w.heap.size 3 i0 (.int .i64 0) 1 8 Tryd.underlying27 hi hz0 hz1 hz2 rfl (by decide) _ _ _ rfl (hown.alloc _) ⟨w1.heap.size, 0, none⟩ 1 1 [.int .i64 (x % (p : Int))] rfl rfl ?c1 ?c2 ?c3 ?c4 ?c5 ?_)
      case c1 =>
        intro j u hj
        match j, hj with
        | 0, hj => simp at hj; subst hj; simp [Addr.add]
      case c2 => intro u hu; simp at hu; subst hu; rfl
      case c3 => have := HLL.out; unfold maxLen; omega
      case c4 => have := HLL.out; omega
      case c5 => simp; omega
      intro v' w2 hown2 hgrow _
      have hown3 := owns_succ hown2
      have HB : Hid (Below w.heap.size w w2) := (hbel.alloc hsz _).grown hgrow (by simp; omega) (fun k hk => (hown.lt k hk).1)
      have HO := hid hown3
      clear hown2 hown3 hgrow hown hbel
      go_wp2_with fail
      go_roundw
      case rel => exact ⟨k + 1, by omega, by go_num, by rw [HLS.out]; exact HO.out, HB.out⟩
      case measure => simp [intOf]; omega
    · have hlt2 : ¬ (k : Int) < (n : Int) := by omega
      obtain rfl : k = n := by omega
      obtain ⟨a', c', rfl, hl⟩ := lst_of_owns hown
      have HL := hid hl
      have HLL := hid (ls_len (fun j => f j % (p : Int)) k)
      clear hown hl
      go_wp2_with fail
      go_ret
      exact ⟨a', c', ret_slice HLL.out, HL.out, hbel⟩

theorem rtrim_any (p cap : Nat) (a : Option Addr) (zs : List Int) (w : World) (h3 : 3 ≤ p) (hm : p ≤ 2147483647)
    (hn : zs.length ≤ 17592186044416) (hfit : Fits zs) (hl : Lst w.heap.size w a cap zs) :
    Calls Tryd.prog 21 #[.int .i64 p, .slice a zs.length cap] w fun e w' => ∃ a' c', e = .returned (.slice a' (Pol.trim p zs).length c') ∧ Lst w'.heap.size w' a' c' (Pol.trim p zs) ∧ Below w.heap.size w w' := by
  have HD := hid (rdeg_any p zs.length cap (· < w.heap.size) a (zat zs) w h3 hm (by omega) hfit hl.row)
  have hle := tpn_le p (zat zs) zs.length
  have HA := hid (rall_any p (tpn p (zat zs) zs.length) cap a (zat zs) w h3 hm (by omega) (fun j hj => hfit j (by omega)) (fun j hj => hl.row j (by omega)))
  have HE : Hid (ls (fun j => zat zs j % (p : Int)) (tpn p (zat zs) zs.length) = Pol.trim p zs) := rfl
  have HL : Hid ((Pol.trim p zs).length = tpn p (zat zs) zs.length) := Pol.mk_length _ _ _
  rw [HE.out] at HA
  have hroom := hl.room
  have hnil := hl.nil
  have HN := hid hnil
  clear hfit hl hnil HE
  generalize tpn p (zat zs) zs.length = t at *
  generalize Pol.trim p zs = ts at *
  have e1 : (t : Int) - 1 + 1 = (t : Int) := by omega
  have ht : (t : Int) ≤ (cap : Int) := by omega
  cases a with
  | none =>
    obtain rfl : cap = 0 := HN.out rfl
    obtain rfl : t = 0 := by omega
    go_enter Tryd.func21, Tryd.ntmps21
    go_wp2_with fail
    refine HD.out.mono ?_
    rintro e w1 ⟨rfl, rfl⟩
    go_wp2_with fail
    refine HA.out.mono ?_
    rintro e w1 ⟨a', c', rfl, hl, hb⟩
    have HLL := hid hl
    have HB := hid hb
    clear hl hb
    go_wp2_with fail
    go_ret
    exact ⟨_, _, ret_slice HL.out.symm, HLL.out, HB.out⟩
  | some ad =>
    go_enter Tryd.func21, Tryd.ntmps21
    go_wp2_with fail
    refine HD.out.mono ?_
    rintro e w1 ⟨rfl, rfl⟩
    go_wp2_with fail
    refine HA.out.mono ?_
    rintro e w1 ⟨a', c', rfl, hl, hb⟩
    have HLL := hid hl
    have HB := hid hb
    clear hl hb
    go_wp2_with fail
    go_ret
    exact ⟨_, _, ret_slice HL.out.symm, HLL.out, HB.out⟩

theorem padd_ls {p : Nat} (h3 : 3 ≤ p) (xs ys : List Int) : Pol.trim p (ls (fun j => (zat xs j + zat ys j) % (p : Int)) (mxn xs.length ys.length)) = Pol.padd p xs ys := by
  refine Pol.mk_congr (by omega) (Pol.cf_behind p _) (Pol.padd_b p xs ys) (fun j => ?_)
  by_cases hj : j < mxn xs.length ys.length
  · rw [show Pol.cf (ls (fun j => (zat xs j + zat ys j) % (p : Int)) (mxn xs.length ys.length)) j = zat (ls (fun j => (zat xs j + zat ys j) % (p : Int)) (mxn xs.length ys.length)) j from rfl, ls_at _ _ _ hj]
    exact Pol.emod_dvd p _
  · have h : max xs.length ys.length ≤ j := by unfold mxn at hj; omega
    rw [Pol.cf_ge (by rw [ls_len]; omega)]
    simp only [Pol.add]
    rw [Pol.cf_ge (by omega), Pol.cf_ge (by omega)]
    simp

end Go.Proofs.YtidkhgplejglaacDoor
