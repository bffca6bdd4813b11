/- The law PolyEvals answers true: what any polynomial is at an element, and its slope. -/
import Derived.Test.YtfombbbiilalpabDoorTold
import Derived.Test.YtfombbbiilalpabDoorPolD
import Derived.Test.YtfombbbiilalpabDoorRefP
import Derived.Test.YtfombbbiilalpabDoorSpoil
namespace Go.Proofs.YtfombbbiilalpabDoor
open Go.RowKit

theorem pdv_ls {p : Nat} (h3 : 3 ≤ p) (zs : List Int) : Pol.trim p (ls (fun j => zat zs (j + 1) * ((j : Int) + 1) % (p : Int)) (zs.length - 1)) = pdv p zs := by
  refine Pol.mk_congr (by omega) (Pol.cf_behind p _) (fun j hj => ?_) (fun j => ?_)
  · simp only [Pol.dv]; rw [Pol.cf_ge (by omega)]; simp
  · by_cases hj : j < zs.length - 1
    · rw [show Pol.cf (ls (fun j => zat zs (j + 1) * ((j : Int) + 1) % (p : Int)) (zs.length - 1)) j = zat (ls (fun j => zat zs (j + 1) * ((j : Int) + 1) % (p : Int)) (zs.length - 1)) j from rfl, ls_at _ _ _ hj]
      exact Pol.emod_dvd p _
    · rw [Pol.cf_ge (by rw [ls_len]; omega)]
      simp only [Pol.dv]
      rw [Pol.cf_ge (by omega)]
      simp

set_option maxRecDepth 100000 in
set_option maxHeartbeats 4000000 in
theorem evals_walk (p : Int) (a1 : Option Addr) (c1 : Nat) (xs : List Int) (x : Int) (w : World) (hL : Laid w) (hp1 : -9223372036854775808 ≤ p) (hp2 : p ≤ 9223372036854775807)
    (hx1 : -9223372036854775808 ≤ x) (hx2 : x ≤ 9223372036854775807) (hlen : xs.length ≤ 17592186043904) (hf1 : Fits xs) (hl1 : Lst w.heap.size w a1 c1 xs) :
    Calls Tryd.prog 6 #[.int .i64 p, .slice a1 xs.length c1, .int .i64 x] w fun e w' => e = .returned (.bool true) ∧ Below w.heap.size w w' := by
  by_cases hok : okPrime p
  · obtain ⟨q, rfl⟩ := Int.eq_ofNat_of_zero_le (show 0 ≤ p by have := hok.1; omega)
    obtain ⟨hq3, hq4, hqp⟩ := hok
    rw [Int.toNat_natCast] at hqp
    have h3 : 3 ≤ q := by omega
    have h4 : q ≤ 2147483647 := by omega
    have HP := hid hqp
    have HF1 := hid hf1
    have HL1 := hid hl1
    obtain ⟨i0, hi, hz0, hz1, hz2⟩ := info_parts Tryd.infoInt
    clear hqp hL hf1 hl1 hq3 hq4 hp1 hp2
    go_enter Tryd.func6, Tryd.ntmps6
    go_wp2_with fail
    refine (field_yes q w h3 h4 HP.out).mono ?_
    rintro e w1 ⟨rfl, hc1, hb1, hlt1⟩
    have HC1 := hid hc1
    have HB1 := hid hb1
    have HR1 := hid ((HL1.out.row.below hb1).mono hb1.size)
    clear hc1 hb1
    go_wp2_with fail
    refine (eval_any q w.heap.size c1 (· < w1.heap.size) a1 xs x w1 h3 h4 HC1.out (by omega) HF1.out hx1 hx2 HR1.out).mono ?_
    rintro e w2 ⟨rfl, n2, rfl⟩
    go_wp2_with fail
    refine (reval_any q c1 (· < w1.heap.size) a1 xs x (w1.drewN n2) h3 h4 (by omega) HF1.out hx1 hx2 HR1.out).mono ?_
    rintro e w2 ⟨rfl, rfl⟩
    go_wp2_with fail
    refine (derive_any q w.heap.size c1 (· < w1.heap.size) a1 xs (w1.drewN n2) h3 h4 HC1.out (by omega) HF1.out HR1.out (fun _ h => h)).mono ?_
    rintro e w3 ⟨cd, rfl, _, hcd, hb3, hs3⟩
    have hb13 : Below w1.heap.size w1 w3 := (below_drewN (Below.refl w1.heap.size w1) n2).trans hb3
    have HA3 : Hid (Alive w3 [(some ⟨w1.heap.size, 0, none⟩, pdv q xs), (a1, xs)]) := ((Alive.nil w3).cons ((HR1.out.below hb13).mono hb13.size)).cons (hcd.row (Nat.le_refl _) (fun _ _ => rfl) (by have : (w1.drewN n2).heap.size = w1.heap.size := rfl; omega))
    have HB3 := hid (HB1.out.trans (hb13.mono (by omega)))
    have hlt3 : w1.heap.size < w3.heap.size := by have : (w1.drewN n2).heap.size = w1.heap.size := rfl; omega
    clear hcd hb3 hs3 hb13
    generalize evz q xs x = ev at *
    go_wp2_with fail
    go_loopw [12, 13] (fun v iv wr => ∃ k : Nat, k ≤ xs.length - 1 ∧ iv = .int .i64 ((k : Int) + 1) ∧ wr.ownsRow w3.heap.size 3 1 v (ls (fun j => zat xs (j + 1) * ((j : Int) + 1) % (q : Int)) k).length ((ls (fun j => zat xs (j + 1) * ((j : Int) + 1) % (q : Int)) k).map (Value.int .i64)) ∧ Below w3.heap.size w3 wr)
      (fun _ iv _ => xs.length - (intOf iv).toNat)
    case atStart => exact ⟨0, Nat.zero_le _, rfl, World.ownsRow_nil _ _ _ _, Below.refl _ _⟩
    case round =>
      obtain ⟨k, hk, rfl, hown, hbel⟩ := hrel
      have hsz := hbel.size
      by_cases hlt : k + 1 < xs.length
      · have hlt2 : (k : Int) + 1 < (xs.length : Int) := by omega
        have e1 : ((k : Int) + 1).toNat = k + 1 := by omega
        obtain ⟨bl, ol, rfl, hbl, hcl⟩ := (HA3.out.at 1 rfl) (k + 1) hlt
        have hcl2 := (hbel.cell (p := ⟨bl, ol + (k + 1), none⟩) hbl).trans hcl
        have HX := HF1.out (k + 1) hlt
        have HLS := hid (ls_succ (fun j => zat xs (j + 1) * ((j : Int) + 1) % (q : Int)) k)
        have HLL := hid (ls_len (fun j => zat xs (j + 1) * ((j : Int) + 1) % (q : Int)) k)
        have HM := hid (rmul_any q (zat xs (k + 1)) ((k : Int) + 1) wr h3 h4 HX.1 HX.2 (by omega) (by omega))
        clear hcl
        generalize zat xs (k + 1) * ((k : Int) + 1) % (q : Int) = z at *
        generalize zat xs (k + 1) = y at *
        go_wp2_with fail
        refine HM.out.mono ?_
        rintro e w4 ⟨rfl, rfl⟩
        generalize ls (fun j => zat xs (j + 1) * ((j : Int) + 1) % (q : Int)) k = lk at *
        go_wp2_with (at_builtin; refine wpList_append_own _ rfl _ _ 22 rfl w3.heap.size 3 i0 (.int .i64 0) 1 8 Tryd.underlying22 hi hz0 hz1 hz2 rfl (by decide) _ _ _ rfl (hown.alloc _) ⟨w4.heap.size, 0, none⟩ 1 1 [.int .i64 (z)] rfl rfl ?c1 ?c2 ?c3 ?c4 ?c5 ?_)
        case c1 =>
          intro j u hj
          match j, hj with
          | 0, hj => simp at hj; subst hj; simp [Addr.add]
        case c2 => intro u hu; simp at hu; subst hu; rfl
        case c3 => have := HLL.out; unfold maxLen; omega
        case c4 => have := HLL.out; omega
        case c5 => simp; omega
        intro v' w5 hown2 hgrow _
        have hown3 := owns_succ hown2
        have HB : Hid (Below w3.heap.size w3 w5) := (hbel.alloc hsz _).grown hgrow (by simp; omega) (fun k hk => (hown.lt k hk).1)
        have HO := hid hown3
        clear hown2 hown3 hgrow hown hbel
        go_wp2_with fail
        go_roundw
        case rel => exact ⟨k + 1, by omega, by go_num, by rw [HLS.out]; exact HO.out, HB.out⟩
        case measure => simp [intOf]; omega
      · have hlt2 : ¬ (k : Int) + 1 < (xs.length : Int) := by omega
        obtain rfl : k = xs.length - 1 := by omega
        obtain ⟨a', c', rfl, hl⟩ := lst_of_owns hown
        have hll := ls_len (fun j => zat xs (j + 1) * ((j : Int) + 1) % (q : Int)) (xs.length - 1)
        have HT := hid (rtrim_any q c' a' (ls (fun j => zat xs (j + 1) * ((j : Int) + 1) % (q : Int)) (xs.length - 1)) wr h3 h4 (by omega) (fun j hj => by
          rw [hll] at hj
          rw [ls_at _ _ _ hj]
          have := emod_bounds (zat xs (j + 1) * ((j : Int) + 1)) q h3
          omega) hl)
        rw [pdv_ls h3, hll] at HT
        rw [hll]
        have HA4 := hid (HA3.out.step hbel)
        have hpl : (pdv q xs).length ≤ 9223372036854775807 := by have := Pol.tp_le q (Pol.dv (Pol.cf xs)) (xs.length - 1); rw [pdv, Pol.mk_length]; omega
        clear hown hl hll
        generalize xs.length - 1 = m at *
        go_wp2_with fail
        refine HT.out.mono ?_
        rintro e w4 ⟨a2', c2', rfl, hl2, hb2⟩
        have HL2 := hid hl2
        have HA5 := hid (HA4.out.step hb2)
        have HB5 : Hid (Below w.heap.size w w4) := HB3.out.trans ((hbel.mono (by omega)).trans (hb2.mono (by omega)))
        clear hl2 hb2
        go_wp2_with fail
        refine (ints_any (pdv q xs) (pdv q xs) _ _ w4 (rowZ_of_B cd (HA5.out.at 0 rfl)) (rowZ_of_B c2' HL2.out.row) hpl hpl).mono ?_
        rintro e w5 ⟨rfl, n5, rfl⟩
        rw [decide_eq_true (rfl : pdv q xs = pdv q xs)]
        have hee : (ev == ev) = true := by simp
        go_wp2_with fail
        go_ret
        exact ⟨rfl, below_drewN HB5.out n5⟩
  · have HN := hid hok
    clear hok hf1 hl1
    go_enter Tryd.func6, Tryd.ntmps6
    go_wp2_with fail
    refine (field_no p w hL HN.out hp1 hp2).mono ?_
    rintro e w1 ⟨rfl, hb1⟩
    have HB1 := hid hb1
    clear hb1
    go_wp2_with fail
    go_ret
    exact ⟨rfl, HB1.out⟩

end Go.Proofs.YtfombbbiilalpabDoor
