/- The law CodeCounts answers true: at how many places any two lists differ. -/
import Derived.Test.YtbpkmhibdaafiadDoorCodC
namespace Go.Proofs.YtbpkmhibdaafiadDoor
open Go.RowKit

set_option maxRecDepth 100000 in
set_option maxHeartbeats 1000000 in
theorem counts_walk (p : Int) (a1 a2 : Option Addr) (c1 c2 : Nat) (xs ys : List Int) (w : World) (hL : Laid w) (hp1 : -9223372036854775808 ≤ p) (hp2 : p ≤ 9223372036854775807)
    (hlx : xs.length ≤ 17592186043904) (hly : ys.length ≤ 17592186043904) (hf1 : Fits xs) (hf2 : Fits ys) (hl1 : RowB w.heap.size w a1 xs) (hl2 : RowB w.heap.size w a2 ys) :
    Calls Tryd.prog 3 #[.int .i64 p, .slice a1 xs.length c1, .slice a2 ys.length c2] w fun e w' => e = .returned (.bool true) ∧ Below w.heap.size w w' := by
  by_cases hok : okPrime p
  · obtain ⟨q, rfl⟩ := Int.eq_ofNat_of_zero_le (show 0 ≤ p by have := hok.1; omega)
    obtain ⟨hq3, hq4, hqp⟩ := hok
    rw [Int.toNat_natCast] at hqp
    have h3 : 3 ≤ q := by omega
    have h4 : q ≤ 2147483647 := by omega
    have HP := hid hqp
    have HF1 := hid hf1
    have HF2 := hid hf2
    have HR1 := hid hl1
    have HR2 := hid hl2
    clear hqp hL hf1 hf2 hl1 hl2 hq3 hq4 hp1 hp2
    go_enter Tryd.func3, Tryd.ntmps3
    go_wp2_with fail
    refine (field_yes q w h3 h4 HP.out).mono ?_
    rintro e w1 ⟨rfl, hc1, hb1, hlt1⟩
    have HC1 := hid hc1
    have HB1 := hid hb1
    have HA := hid ((HR1.out.below hb1).mono hb1.size)
    have HB := hid ((HR2.out.below hb1).mono hb1.size)
    clear hc1 hb1
    go_wp2_with fail
    refine (cdist_any q w.heap.size c1 c2 a1 a2 xs ys w1 h3 h4 HC1.out (by omega) (by omega) HF1.out HF2.out HA.out HB.out).mono ?_
    rintro e w2 ⟨rfl, m, rfl⟩
    have HA2 : Hid (RowB (w1.drewN m).heap.size (w1.drewN m) a1 xs) := HA.out
    have HB2 : Hid (RowB (w1.drewN m).heap.size (w1.drewN m) a2 ys) := HB.out
    have HB1' := hid (below_drewN HB1.out m)
    clear HA HB HB1
    generalize w1.drewN m = w2 at *
    go_wp2_with fail
    refine (rdist_any q c1 c2 a1 a2 xs ys w2 h3 h4 (by omega) (by omega) HF1.out HF2.out HA2.out HB2.out).mono ?_
    rintro e w3 ⟨rfl, rfl⟩
    go_wp2_with fail
    go_ret
    exact ⟨by first | rfl | simp, HB1'.out⟩
  · have HN := hid hok
    clear hok hf1 hf2 hl1 hl2
    go_enter Tryd.func3, Tryd.ntmps3
    go_wp2_with fail
    refine (field_no p w hL HN.out hp1 hp2).mono ?_
    rintro e w1 ⟨rfl, hb1⟩
    have HB1 := hid hb1
    clear hb1
    go_wp2_with fail
    go_ret
    exact ⟨rfl, HB1.out⟩

end Go.Proofs.YtbpkmhibdaafiadDoor
