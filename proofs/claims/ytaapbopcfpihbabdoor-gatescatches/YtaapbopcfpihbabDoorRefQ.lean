/- What package attestref1 answers of polynomials: Scaled, Minus, Times, for every list. -/
import Derived.Test.YtaapbopcfpihbabDoorPls
namespace Go.Proofs.YtaapbopcfpihbabDoor
open Go.RowKit

theorem zat_app (k j : Nat) (ms : List Int) : zat (List.replicate k (0 : Int) ++ ms) j = if j < k then 0 else zat ms (j - k) := by
  unfold zat
  by_cases h : j < k
  · rw [if_pos h, List.getElem?_append_left (by simp; exact h)]; simp [h]
  · rw [if_neg h, List.getElem?_append_right (by simp; omega)]; simp

theorem pscale_ls {p : Nat} (h3 : 3 ≤ p) (zs : List Int) (c : Int) (k : Nat) : Pol.trim p (List.replicate k (0 : Int) ++ ls (fun j => zat zs j * c % (p : Int)) zs.length) = Pol.pscale p zs c k := by
  refine Pol.mk_congr (by omega) (Pol.cf_behind p _) (Pol.pscale_b p zs c k) (fun j => ?_)
  rw [show Pol.cf (List.replicate k (0 : Int) ++ ls (fun j => zat zs j * c % (p : Int)) zs.length) j = zat (List.replicate k (0 : Int) ++ ls (fun j => zat zs j * c % (p : Int)) zs.length) j from rfl, zat_app]
  simp only [Pol.sh, Pol.sc]
  by_cases h : j < k
  · rw [if_pos h, if_pos h]; simp
  · rw [if_neg h, if_neg h]
    by_cases h2 : j - k < zs.length
    · rw [ls_at _ _ _ h2, Int.mul_comm c]
      exact Pol.emod_dvd p _
    · rw [Pol.cf_ge (by omega)]
      have : zat (ls (fun j => zat zs j * c % (p : Int)) zs.length) (j - k) = 0 := by
        unfold zat; rw [List.getElem?_eq_none (by rw [ls_len]; omega)]; rfl
      rw [this]; simp

set_option maxHeartbeats 1000000 in
theorem rscaled_any (p k0 cap : Nat) (a : Option Addr) (zs : List Int) (c : Int) (w : World) (h3 : 3 ≤ p) (hm : p ≤ 2147483647)
    (hn : k0 + zs.length ≤ 17592186044416) (hfit : Fits zs) (hc1 : -9223372036854775808 ≤ c) (hc2 : c ≤ 9223372036854775807) (hrow : RowB w.heap.size w a zs) :
    Calls Tryd.prog 45 #[.int .i64 p, .slice a zs.length cap, .int .i64 c, .int .i64 k0] w fun e w' => ∃ a' c', e = .returned (.slice a' (Pol.pscale p zs c k0).length c') ∧ Lst w'.heap.size w' a' c' (Pol.pscale p zs c k0) ∧ Below w.heap.size w w' := by
  obtain ⟨i0, hi, hz0, hz1, hz2⟩ := info_parts Tryd.infoInt
  have HF := hid hfit
  have HR := hid hrow
  have HE := hid (pscale_ls h3 zs c k0)
  clear hfit hrow
  have hmk := fun n h1 h2 w => run_make_row' (P := Tryd.prog) 25 3 (.int .i64 0) 8 Tryd.underlying25 Tryd.infoInt rfl .i64 .i64 n h1 h2 w
  have hmk2 := hmk k0 (by omega) (by omega)
  clear hmk
  have HOZ := hid (owns_zeros w k0 (by unfold maxLen; omega))
  generalize Pol.pscale p zs c k0 = res at *
  go_enter Tryd.func45, Tryd.ntmps45
  go_wp2_with fail
  go_loopw [9, 10] (fun v iv wr => ∃ k : Nat, k ≤ zs.length ∧ iv = .int .i64 k ∧ wr.ownsRow w.heap.size 3 1 v (List.replicate k0 (0 : Int) ++ ls (fun j => zat zs j * c % (p : Int)) k).length ((List.replicate k0 (0 : Int) ++ ls (fun j => zat zs j * c % (p : Int)) k).map (Value.int .i64)) ∧ Below w.heap.size w wr)
    (fun _ iv _ => zs.length - (intOf iv).toNat)
  case atStart => exact ⟨0, Nat.zero_le _, rfl, by rw [show ls (fun j => zat zs j * c % (p : Int)) 0 = [] from rfl, List.append_nil]; exact HOZ.out, (Below.refl _ _).alloc (Nat.le_refl _) _⟩
  case round =>
    obtain ⟨k, hk, rfl, hown, hbel⟩ := hrel
    have hsz := hbel.size
    by_cases hlt : k < zs.length
    · have hlt2 : (k : Int) < (zs.length : Int) := by omega
      obtain ⟨bl, ol, rfl, hbl, hcl⟩ := HR.out k hlt
      have hcl2 := (hbel.cell (p := ⟨bl, ol + k, none⟩) hbl).trans hcl
      obtain ⟨hx1, hx2⟩ := HF.out k hlt
      have HLS : Hid (List.replicate k0 (0 : Int) ++ ls (fun j => zat zs j * c % (p : Int)) (k + 1) = (List.replicate k0 (0 : Int) ++ ls (fun j => zat zs j * c % (p : Int)) k) ++ [zat zs k * c % (p : Int)]) := by unfold Hid; rw [ls_succ, List.append_assoc]
      have HLL : Hid ((List.replicate k0 (0 : Int) ++ ls (fun j => zat zs j * c % (p : Int)) k).length = k0 + k) := by unfold Hid; rw [List.length_append, ls_len, List.length_replicate]
      generalize zat zs k = x at *
      clear hcl
      go_wp2_with fail
      refine (rmul_any p x c _ h3 hm hx1 hx2 hc1 hc2).mono ?_
      rintro e w1 ⟨rfl, rfl⟩
      generalize List.replicate k0 (0 : Int) ++ ls (fun j => zat zs j * c % (p : Int)) k = lk at *
      go_wp2_with (at_builtin; refine wpList_append_own _ rfl _ _ 25 rfl w.heap.size 3 i0 (.int .i64 0) 1 8 Tryd.underlying25 hi hz0 hz1 hz2 rfl (by decide) _ _ _ rfl (hown.alloc _) ⟨w1.heap.size, 0, none⟩ 1 1 [.int .i64 (x * c % (p : Int))] rfl rfl ?c1 ?c2 ?c3 ?c4 ?c5 ?_)
      case c1 =>
        intro j u hj
        match j, hj with
        | 0, hj => simp at hj; subst hj; simp [Addr.add]
      case c2 => intro u hu; simp at hu; subst hu; rfl
      case c3 => have := HLL.out; unfold maxLen; omega
      case c4 => have := HLL.out; omega
      case c5 => simp; omega
      intro v' w2 hown2 hgrow _
      have hown3 := owns_succ hown2
      have HB : Hid (Below w.heap.size w w2) := (hbel.alloc hsz _).grown hgrow (by simp; omega) (fun k hk => (hown.lt k hk).1)
      have HO := hid hown3
      clear hown2 hown3 hgrow hown hbel
      go_wp2_with fail
      go_roundw
      case rel => exact ⟨k + 1, by omega, by go_num, by rw [HLS.out]; exact HO.out, HB.out⟩
      case measure => simp [intOf]; omega
    · have hlt2 : ¬ (k : Int) < (zs.length : Int) := by omega
      obtain rfl : k = zs.length := by omega
      obtain ⟨a', c', rfl, hl⟩ := lst_of_owns hown
      have hll : (List.replicate k0 (0 : Int) ++ ls (fun j => zat zs j * c % (p : Int)) zs.length).length = k0 + zs.length := by rw [List.length_append, ls_len, List.length_replicate]
      have HT := hid (rtrim_any p c' a' (List.replicate k0 (0 : Int) ++ ls (fun j => zat zs j * c % (p : Int)) zs.length) wr h3 hm (by omega) (fun j hj => by
        rw [zat_app]
        by_cases h : j < k0
        · rw [if_pos h]; omega
        · rw [if_neg h, ls_at _ _ _ (by omega)]
          have := emod_bounds (zat zs (j - k0) * c) p h3
          omega) hl)
      rw [HE.out, hll] at HT
      rw [hll]
      clear hown hl hll
      go_wp2_with fail
      refine HT.out.mono ?_
      rintro e w1 ⟨a2', c2', rfl, hl2, hb2⟩
      have HL2 := hid hl2
      have HB2 : Hid (Below w.heap.size w w1) := hbel.trans (hb2.mono hsz)
      clear hl2 hb2
      go_wp2_with fail
      go_ret
      exact ⟨_, _, rfl, HL2.out, HB2.out⟩

theorem pscale_can {p : Nat} (h3 : 3 ≤ p) (zs : List Int) (c : Int) (k : Nat) : Pol.Can p (Pol.pscale p zs c k) := Pol.mk_can (by omega) _ _
theorem padd_can {p : Nat} (h3 : 3 ≤ p) (xs ys : List Int) : Pol.Can p (Pol.padd p xs ys) := Pol.mk_can (by omega) _ _
theorem psub_can {p : Nat} (h3 : 3 ≤ p) (xs ys : List Int) : Pol.Can p (Pol.psub p xs ys) := Pol.mk_can (by omega) _ _
theorem fits_of_can {p : Nat} (hm : p ≤ 2147483647) {zs : List Int} (h : Pol.Can p zs) : Fits zs := fun j hj => by
  have := h.elem j hj
  have e : zat zs j = zs.getD j 0 := rfl
  omega

/-- the product while the first i of xs are taken -/
def tm (p : Nat) (xs ys : List Int) (i : Nat) : List Int := Pol.mk p (Pol.mul (Pol.lo i (Pol.cf xs)) (Pol.cf ys)) (i + ys.length)

theorem tm_b (p : Nat) (xs ys : List Int) (i : Nat) : ∀ j, i + ys.length ≤ j → Pol.mul (Pol.lo i (Pol.cf xs)) (Pol.cf ys) j % (p : Int) = 0 := fun j hj => by
  have : Pol.mul (Pol.lo i (Pol.cf xs)) (Pol.cf ys) j = 0 := Pol.ml_zero_beyond _ _ i ys.length (fun j h => by simp only [Pol.lo]; rw [if_neg (by omega)]) (fun j h => Pol.cf_ge h) j (by omega)
  rw [this]; simp
theorem tm_zero (p : Nat) (xs ys : List Int) : tm p xs ys 0 = [] := by
  have : (tm p xs ys 0).length = 0 := by
    rw [tm, Pol.mk_length]
    exact Nat.le_zero.1 (Pol.tp_bound (fun j _ => by rw [Pol.lo_zero, Pol.zero_mul]; exact Int.dvd_zero _))
  exact List.length_eq_zero_iff.1 this
theorem tm_succ {p : Nat} (h3 : 3 ≤ p) (xs ys : List Int) (i : Nat) : Pol.padd p (tm p xs ys i) (Pol.pscale p ys (zat xs i) i) = tm p xs ys (i + 1) := by
  refine Pol.mk_congr (by omega) (Pol.padd_b p _ _) (tm_b p xs ys (i + 1)) ?_
  rw [Pol.lo_mul_succ]
  exact (Pol.mk_eqp (tm_b p xs ys i)).add (Pol.pscale_eqp p ys (zat xs i) i)
theorem tm_done {p : Nat} (h3 : 3 ≤ p) (xs ys : List Int) : tm p xs ys xs.length = Pol.pmul p xs ys := by
  refine Pol.mk_congr (by omega) (tm_b p xs ys xs.length) (Pol.pmul_b p xs ys) ?_
  rw [Pol.lo_len]; exact Pol.Eqp.refl _ _
theorem tm_le (p : Nat) (xs ys : List Int) (i : Nat) : (tm p xs ys i).length ≤ i + ys.length := by rw [tm, Pol.mk_length]; exact Pol.tp_le _ _ _
theorem tm_can {p : Nat} (h3 : 3 ≤ p) (xs ys : List Int) (i : Nat) : Pol.Can p (tm p xs ys i) := Pol.mk_can (by omega) _ _

set_option maxHeartbeats 1000000 in
theorem rtimes_any (p c1 c2 : Nat) (a1 a2 : Option Addr) (xs ys : List Int) (w : World) (h3 : 3 ≤ p) (hm : p ≤ 2147483647)
    (hn : xs.length + ys.length ≤ 17592186044416) (hf1 : Fits xs) (hf2 : Fits ys) (hl1 : RowB w.heap.size w a1 xs) (hl2 : RowB w.heap.size w a2 ys) :
    Calls Tryd.prog 57 #[.int .i64 p, .slice a1 xs.length c1, .slice a2 ys.length c2] w fun e w' => ∃ a' c', e = .returned (.slice a' (Pol.pmul p xs ys).length c') ∧ Lst w'.heap.size w' a' c' (Pol.pmul p xs ys) ∧ Below w.heap.size w w' := by
  have HF1 := hid hf1
  have HF2 := hid hf2
  have HR1 := hid hl1
  have HR2 := hid hl2
  clear hf1 hf2 hl1 hl2
  go_enter Tryd.func57, Tryd.ntmps57
  go_wp2_with fail
  go_loopw [7, 8] (fun v iv wr => ∃ (k : Nat) (ao : Option Addr) (co : Nat), k ≤ xs.length ∧ iv = .int .i64 k ∧ v = .slice ao (tm p xs ys k).length co ∧ Hid (Lst wr.heap.size wr ao co (tm p xs ys k)) ∧ Hid (Below w.heap.size w wr))
    (fun _ iv _ => xs.length - (intOf iv).toNat)
  case atStart => exact ⟨0, none, 0, Nat.zero_le _, rfl, by rw [tm_zero]; rfl, by rw [tm_zero]; exact Lst.none _ _, Below.refl _ _⟩
  case round =>
    obtain ⟨k, ao, co, hk, rfl, rfl, hlst, hbel⟩ := hrel
    by_cases hlt : k < xs.length
    · have hlt2 : (k : Int) < (xs.length : Int) := by omega
      have HR2' := hid ((HR2.out.below hbel.out).mono hbel.out.size)
      obtain ⟨bl, ol, rfl, hbl, hcl⟩ := HR1.out k hlt
      have hcl2 := (hbel.out.cell (p := ⟨bl, ol + k, none⟩) hbl).trans hcl
      obtain ⟨hx1, hx2⟩ := HF1.out k hlt
      have HS := hid (rscaled_any p k c2 a2 ys (zat xs k) wr h3 hm (by omega) HF2.out hx1 hx2 HR2'.out)
      have HP : Hid (∀ (a' : Option Addr) (c' : Nat) (w1 : World), Below wr.heap.size wr w1 → Lst w1.heap.size w1 a' c' (Pol.pscale p ys (zat xs k) k) → Calls Tryd.prog 46 #[.int .i64 p, .slice ao (tm p xs ys k).length co, .slice a' (Pol.pscale p ys (zat xs k) k).length c'] w1 fun e w' => ∃ a'' c'', e = .returned (.slice a'' (tm p xs ys (k + 1)).length c'') ∧ Lst w'.heap.size w' a'' c'' (tm p xs ys (k + 1)) ∧ Below w1.heap.size w1 w') := fun a' c' w1 hb hl => by
        have := rplus_any p co c' ao a' (tm p xs ys k) (Pol.pscale p ys (zat xs k) k) w1 h3 hm (by have := tm_le p xs ys k; omega) (by have := Pol.pscale_le p ys (zat xs k) k; omega) (fits_of_can hm (tm_can h3 _ _ _)) (fits_of_can hm (pscale_can h3 _ _ _)) ((hlst.out.row.below hb).mono hb.size) hl.row
        rw [tm_succ h3] at this
        exact this
      generalize Pol.pscale p ys (zat xs k) k = sc at *
      generalize zat xs k = x at *
      generalize tm p xs ys k = tk at *
      clear hcl
      go_wp2_with fail
      refine HS.out.mono ?_
      rintro e w1 ⟨a', c', rfl, hl, hb⟩
      have HL := hid hl
      have HB := hid hb
      clear hl hb
      go_wp2_with fail
      refine (HP.out _ _ _ HB.out HL.out).mono ?_
      rintro e w2 ⟨a2', c2', rfl, hl2, hb2⟩
      have HL2 := hid hl2
      have HB2 : Hid (Below w.heap.size w w2) := hbel.out.trans ((HB.out.mono hbel.out.size).trans (hb2.mono (Nat.le_trans hbel.out.size HB.out.size)))
      clear hl2 hb2
      go_wp2_with fail
      go_roundw
      case rel => exact ⟨k + 1, _, _, by omega, by go_num, rfl, HL2, HB2⟩
      case measure => simp [intOf]; omega
    · have hlt2 : ¬ (k : Int) < (xs.length : Int) := by omega
      obtain rfl : k = xs.length := by omega
      rw [tm_done h3]
      rw [tm_done h3] at hlst
      go_wp2_with fail
      go_ret
      exact ⟨_, _, rfl, hlst.out, hbel.out⟩

end Go.Proofs.YtaapbopcfpihbabDoor
