/- The law PolyRoots answers true: a polynomial that is not zero is 0 at no more elements than its degree. -/
import Derived.Test.YtfombbbiilalpacLaw
import Derived.Test.YtfombbbiilalpacNew
import Derived.Test.YtfombbbiilalpacPolD
import Derived.Test.YtfombbbiilalpacUnlike
namespace Go.Proofs.Ytfombbbiilalpac
open Go.RowKit

/-- as many roots as places: then there is none that is not 0 -/
theorem roots_no {p : Nat} (hp : Num.Prime p) (h3 : 3 ≤ p) {az xs : List Int} (h0 : 0 < tpn p (zat az) az.length) (hl : tpn p (zat az) az.length ≤ xs.length) (hu : Unl p (zat xs) xs.length) (hr : ∀ j, j < xs.length → evz p az (zat xs j) = 0) : False := by
  have hz : ∀ j, tpn p (zat az) az.length ≤ j → (p : Int) ∣ zat az j := fun j hj => by
    by_cases h : j < az.length
    · exact Pol.emod_zero_iff.1 (Pol.tp_behind p (zat az) az.length j hj h)
    · rw [show zat az j = 0 from by simp [zat, show az.length ≤ j from by omega]]; exact Int.dvd_zero _
  have key := Pol.roots hp (tpn p (zat az) az.length) (zat az) (zat xs) (fun i j h1 h2 hd => hu i j h1 (by omega) ((Pol.emod_eq_iff (by omega)).2 (by
    have := Int.dvd_neg.2 hd; rwa [Int.neg_sub] at this))) (fun i hi => by
    have h1 := Pol.emod_zero_iff.1 (hr i (by omega))
    have h2 := Pol.ps_more (p := p) (f := zat az) (zat xs i) (tpn p (zat az) az.length) az.length (tpn_le _ _ _) hz
    have := Int.dvd_sub h1 h2
    rwa [show ∀ x y : Int, x - (x - y) = y from fun x y => by omega] at this)
  exact Pol.tp_last p (zat az) az.length h0 (Pol.emod_zero_iff.2 (key _ (by unfold tpn at h0 ⊢; omega)))

set_option maxRecDepth 100000 in
set_option maxHeartbeats 4000000 in
theorem roots_walk (p : Int) (a1 a2 : Option Addr) (c1 c2 : Nat) (ys xs : List Int) (w : World) (hp1 : -9223372036854775808 ≤ p) (hp2 : p ≤ 9223372036854775807)
    (hly : ys.length ≤ 17592186043904) (hlx : xs.length ≤ 17592186043904) (hf1 : Fits ys) (hf2 : Fits xs) (hl1 : RowB w.heap.size w a1 ys) (hl2 : RowB w.heap.size w a2 xs) :
    Calls Try.prog 3 #[.int .i64 p, .slice a1 ys.length c1, .slice a2 xs.length c2] w fun e w' => e = .returned (.bool true) ∧ Below w.heap.size w w' := by
  have HF1 := hid hf1
  have HF2 := hid hf2
  have HR1 := hid hl1
  have HR2 := hid hl2
  clear hf1 hf2 hl1 hl2
  have e6 : evz 17 [1, 2, 3] 1 = 6 := by decide
  go_enter Try.func3, Try.ntmps3
  go_wp2_with fail
  refine (lives_any w).mono ?_
  rintro e w1 ⟨b, rfl, hc1, hlt1, hb1⟩
  have HC1 := hid hc1
  have HB1 := hid hb1
  clear hc1 hb1
  have hc2 : (w1.alloc (.cells #[.int .i64 1, .int .i64 2, .int .i64 3] 3)).cell? ⟨b, 0, none⟩ = some (.int .i64 17) := (World.cell?_alloc_lt _ _ ⟨b, 0, none⟩ hlt1).trans HC1.out
  have HB2 : Hid (Below w.heap.size w (w1.alloc (.cells #[.int .i64 1, .int .i64 2, .int .i64 3] 3))) := HB1.out.alloc HB1.out.size _
  have HE := hid (eval_any 17 b 3 (fun _ => True) (some ⟨w1.heap.size, 0, none⟩) [1, 2, 3] 1 (w1.alloc (.cells #[.int .i64 1, .int .i64 2, .int .i64 3] 3)) (by decide) (by decide) hc2 (by decide) (fun j hj => by
      have : j = 0 ∨ j = 1 ∨ j = 2 := by simp at hj; omega
      rcases this with rfl | rfl | rfl <;> simp [zat]) (by decide) (by decide) (fun k hk => by
      have : k = 0 ∨ k = 1 ∨ k = 2 := by simp at hk; omega
      rcases this with rfl | rfl | rfl <;> exact ⟨w1.heap.size, 0, rfl, trivial, by simp [zat]⟩))
  rw [e6] at HE
  clear e6 hc2
  go_wp2_with fail
  refine HE.out.mono ?_
  rintro e w2 ⟨rfl, n2, rfl⟩
  have HB3 := hid (below_drewN HB2.out n2)
  have HRA := hid ((HR1.out.below HB3.out).mono HB3.out.size)
  have HRB := hid ((HR2.out.below HB3.out).mono HB3.out.size)
  clear HE HC1 HB1 HB2 HR1 HR2
  generalize (w1.alloc (.cells #[.int .i64 1, .int .i64 2, .int .i64 3] 3)).drewN n2 = w3 at *
  by_cases hok : okPrime p
  · obtain ⟨q, rfl⟩ := Int.eq_ofNat_of_zero_le (show 0 ≤ p by have := hok.1; omega)
    obtain ⟨hq3, hq4, hqp⟩ := hok
    rw [Int.toNat_natCast] at hqp
    have h3 : 3 ≤ q := by omega
    have h4 : q ≤ 2147483647 := by omega
    have HP := hid hqp
    clear hqp hq3 hq4
    go_wp2_with fail
    refine (new_yes q w3 h3 h4 HP.out).mono ?_
    rintro e w4 ⟨rfl, hc4, hb4, hlt4⟩
    have HC4 := hid hc4
    have HB4 : Hid (Below w.heap.size w w4) := HB3.out.trans (hb4.mono HB3.out.size)
    have HRA4 := hid ((HRA.out.below hb4).mono hb4.size)
    have HRB4 := hid ((HRB.out.below hb4).mono hb4.size)
    clear hc4 hb4 HRA HRB
    go_wp2_with fail
    refine (deg_any q w3.heap.size ys.length c1 (· < w4.heap.size) a1 (zat ys) w4 h3 h4 HC4.out (by omega) HF1.out HRA4.out).mono ?_
    rintro e w4' ⟨rfl, rfl⟩
    go_wp2_with fail
    refine (runlike_any q c2 a2 xs w4' h3 h4 (by omega) HF2.out HRB4.out).mono ?_
    rintro e w5 ⟨rfl, hb5⟩
    have HB5 : Hid (Below w.heap.size w w5) := HB4.out.trans (hb5.mono HB4.out.size)
    have HRA5 := hid ((HRA4.out.below hb5).mono hb5.size)
    have HRB5 := hid ((HRB4.out.below hb5).mono hb5.size)
    have HC5 := hid ((hb5.cell (p := ⟨w3.heap.size, 0, none⟩) hlt4).trans HC4.out)
    clear hb5 HRA4 HRB4 HC4
    by_cases hneg : (tpn q (zat ys) ys.length : Int) - 1 < 0
    · generalize (tpn q (zat ys) ys.length : Int) - 1 = t at *
      go_wp2_with fail
      go_ret
      exact ⟨rfl, HB5.out⟩
    · by_cases hun : Unl q (zat xs) xs.length
      · have HUN := hid hun
        rw [unlB_yes hun]
        clear hun
        by_cases hle : (xs.length : Int) ≤ (tpn q (zat ys) ys.length : Int) - 1
        · generalize (tpn q (zat ys) ys.length : Int) - 1 = t at *
          go_wp2_with fail
          go_ret
          exact ⟨rfl, HB5.out⟩
        · have HT1 : Hid (0 < tpn q (zat ys) ys.length) := by unfold Hid; omega
          have HT2 : Hid (tpn q (zat ys) ys.length ≤ xs.length) := by unfold Hid; omega
          generalize (tpn q (zat ys) ys.length : Int) - 1 = t at *
          go_wp2_with fail
          go_loopw [8, 13] (fun _ iv wr => ∃ k n : Nat, k ≤ xs.length ∧ iv = .int .i64 k ∧ Hid (wr = w5.drewN n) ∧ Hid (∀ j, j < k → evz q ys (zat xs j) = 0)) (fun _ iv _ => xs.length - (intOf iv).toNat)
          case atStart => exact ⟨0, 0, Nat.zero_le _, rfl, rfl, fun j hj => by omega⟩
          case round =>
            obtain ⟨k, n, hk, rfl, HW, hz⟩ := hrel
            by_cases hlt : k < xs.length
            · have hlt2 : (k : Int) < (xs.length : Int) := by omega
              obtain ⟨bl, ol, rfl, hbl, hcl⟩ := HRB5.out k hlt
              have hcl2 : wr.cell? ⟨bl, ol + k, none⟩ = some (.int .i64 (zat xs k)) := by rw [HW.out]; exact hcl
              have hx := HF2.out k hlt
              have HEV := hid (eval_any q w3.heap.size c1 (· < w5.heap.size) a1 ys (zat xs k) wr h3 h4 (by rw [HW.out]; exact HC5.out) (by omega) HF1.out hx.1 hx.2 (by rw [HW.out]; exact HRA5.out))
              have HZS : Hid (evz q ys (zat xs k) = 0 → ∀ j, j < k + 1 → evz q ys (zat xs j) = 0) := fun h j hj => by
                by_cases e : j = k
                · subst e; exact h
                · exact hz.out j (by omega)
              generalize evz q ys (zat xs k) = ev at *
              generalize zat xs k = x at *
              clear hcl
              go_wp2_with fail
              refine HEV.out.mono ?_
              rintro e w6 ⟨rfl, n6, rfl⟩
              by_cases he : ev = 0
              · have heb : (ev != 0) = false := by rw [he]; rfl
                have HZ2 := hid (HZS.out he)
                clear he HZS
                go_wp2_with fail
                go_roundw
                case rel => exact ⟨k + 1, _, by omega, by go_num, by unfold Hid; rw [HW.out, World.drewN_drewN], HZ2⟩
                case measure => simp [intOf]; omega
              · have heb : (ev != 0) = true := by rw [bne_iff_ne]; exact he
                clear he HZS
                go_wp2_with fail
                go_ret
                exact ⟨rfl, by rw [HW.out]; exact below_drewN (below_drewN HB5.out _) _⟩
            · exact (roots_no HP.out h3 HT1.out HT2.out HUN.out (fun j hj => hz.out j (by omega))).elim
      · rw [unlB_no hun]
        clear hun
        generalize (tpn q (zat ys) ys.length : Int) - 1 = t at *
        go_wp2_with fail
        go_ret
        exact ⟨rfl, HB5.out⟩
  · have HN := hid hok
    clear hok
    go_wp2_with fail
    refine (new_no p w3 HN.out hp1 hp2).mono ?_
    rintro e w4 ⟨rfl, rfl⟩
    go_wp2_with fail
    go_ret
    exact ⟨rfl, HB3.out⟩

end Go.Proofs.Ytfombbbiilalpac
