/- The law SpongeMakes answers true: over which fields there is a sponge, and what it is made of. -/
import Derived.Test.YtfijhnojflcajadDoorSpgT
namespace Go.Proofs.YtfijhnojflcajadDoor
open Go.RowKit

set_option maxRecDepth 100000 in
set_option maxHeartbeats 2000000 in
theorem smakes_walk (p r i : Int) (w : World) (hL : Laid w) (hp1 : -9223372036854775808 ≤ p) (hp2 : p ≤ 9223372036854775807) :
    Calls Tryd.prog 6 #[.int .i64 p, .int .i64 r, .int .i64 i] w fun e w' => e = .returned (.bool true) ∧ Below w.heap.size w w' := by
  by_cases hg : GoodS p
  · obtain ⟨⟨hq3, hq4, hqp⟩, h23⟩ := hg
    obtain ⟨q, rfl⟩ := Int.eq_ofNat_of_zero_le (show 0 ≤ p by omega)
    rw [Int.toNat_natCast] at hqp
    have h4 : q ≤ 2147483647 := by omega
    have h3 : 3 ≤ q := by omega
    have h5 : 5 ≤ q := by omega
    have HP := hid hqp
    have h23n : 23 ≤ q := by omega
    clear hqp hL hq3 hq4 hp1 hp2 h23
    go_enter Tryd.func6, Tryd.ntmps6
    go_wp2_with fail
    refine (sponge_yes q w h23n h4 HP.out).mono ?_
    rintro e w1 ⟨s, b, n, d, rfl, hok, hat, hb1⟩
    have HOK := hid hok
    have HAT := hid hat
    have HB1 := hid hb1
    clear hok hat hb1
    go_wp2_with fail
    refine (spower_any q n d b s w1 HAT.out).mono ?_
    rintro e w2 ⟨rfl, rfl⟩
    go_wp2_with fail
    refine (rpower_any q w2 h5 h4).mono ?_
    rintro e w3 ⟨m, rfl, hpm, _, rfl⟩
    obtain rfl : m = n := hpm.unique HOK.out.pw
    clear hpm
    go_wp2_with fail
    refine (sconst_any q m d b s r i w3 HAT.out).mono ?_
    rintro e w4 ⟨rfl, rfl⟩
    go_wp2_with fail
    refine (rconst_any q r i w4 h3 h4).mono ?_
    rintro e w5 ⟨rfl, rfl⟩
    generalize cst q r i = c at *
    go_wp2_with fail
    refine (sfield_any q m d b s w5 HAT.out).mono ?_
    rintro e w6 ⟨rfl, rfl⟩
    have hnn : ((m : Int) != (m : Int)) = false := by simp
    have hcc : (c != c) = false := by simp
    go_wp2_with fail
    refine (p_any q b w6 HAT.out.p).mono ?_
    rintro e w7 ⟨rfl, rfl⟩
    go_wp2_with fail
    refine (smatrix_any q m d b s w7 HAT.out).mono ?_
    rintro e w8 ⟨V, rfl, hV, hM, hb8⟩
    have HV := hid hV
    have HM := hid hM
    have HB8 : Hid (Below w.heap.size w w8) := HB1.out.trans (hb8.mono HB1.out.size)
    have hqq : ((q : Int) != (q : Int)) = false := by simp
    clear hV hM hb8 HAT HOK HB1
    go_wp2_with fail
    go_loop [16] (fun kv => ∃ k : Nat, k ≤ 8 ∧ kv = .int .i64 k) (fun kv => 8 - (intOf kv).toNat)
    case atStart => exact ⟨0, by omega, rfl⟩
    case round =>
      obtain ⟨k, hk, rfl⟩ := hrel
      by_cases hlt : k < 8
      · have hlt2 : (k : Int) < 8 := by omega
        have hks : IntKind.i64.wrap ((k : Int) + 1) = (k : Int) + 1 := by rw [IntKind.wrap_i64]; omega
        have c1 := HV.out.cell hlt
        obtain ⟨g, N, hVk, hg1, hg2, hgc⟩ := HM.out k hlt
        rw [hVk] at c1
        have HGC := hid hgc
        clear hVk hgc
        go_wp2_with fail
        go_loop [17] (fun jv => ∃ j : Nat, j ≤ 8 ∧ jv = .int .i64 j) (fun jv => 8 - (intOf jv).toNat)
        case atStart => exact ⟨0, by omega, rfl⟩
        case round =>
          obtain ⟨j, hj, rfl⟩ := hrel
          by_cases hjl : j < 8
          · have hjl2 : (j : Int) < 8 := by omega
            have hkj : IntKind.i64.wrap ((j : Int) + 1) = (j : Int) + 1 := by rw [IntKind.wrap_i64]; omega
            have hw1 : IntKind.i64.wrap ((k : Int) + (j : Int)) = (k : Int) + (j : Int) := by rw [IntKind.wrap_i64]; omega
            have hw2 : IntKind.i64.wrap ((k : Int) + (j : Int) + 8) = (k : Int) + (j : Int) + 8 := by rw [IntKind.wrap_i64]; omega
            have c2 := HGC.out j hjl
            rw [show ((k + j + 8 : Nat) : Int) = (k : Int) + (j : Int) + 8 from by push_cast; rfl] at c2
            have HI := hid (rinv_any q ((k : Int) + (j : Int) + 8) w8 h3 h4 (by omega) (by omega))
            generalize invn q ((k : Int) + (j : Int) + 8) = x at *
            have hxx : ((x : Int) != (x : Int)) = false := by simp
            go_wp2_with fail
            refine HI.out.mono ?_
            rintro e w9 ⟨rfl, rfl⟩
            go_wp2_with fail
            go_round
            case rel => exact ⟨j + 1, by omega, by go_num⟩
            case measure => simp [intOf]; omega
          · obtain rfl : j = 8 := by omega
            go_wp2_with fail
            go_round
            case rel => exact ⟨k + 1, by omega, by go_num⟩
            case measure => simp [intOf]; omega
      · obtain rfl : k = 8 := by omega
        go_wp2_with fail
        go_ret
        exact ⟨rfl, HB8.out⟩
  · have HN := hid (sponge_no p w hL hg hp1 hp2)
    clear hg hL
    go_enter Tryd.func6, Tryd.ntmps6
    go_wp2_with fail
    refine HN.out.mono ?_
    rintro e w1 ⟨rfl, hb1⟩
    have HB1 := hid hb1
    clear hb1
    go_wp2_with fail
    go_ret
    exact ⟨rfl, HB1.out⟩

end Go.Proofs.YtfijhnojflcajadDoor
