/- The reference of package gates: Line. -/
import Derived.Test.YtpgnabmkfkcogaaGreatDoorGmAW
import Derived.Test.YtpgnabmkfkcogaaGreatDoorGmAX
namespace Go.Proofs.YtpgnabmkfkcogaaGreatDoor
open Go.RowKit

set_option maxRecDepth 100000 in
set_option maxHeartbeats 2000000 in
theorem rline13_any (q m cb cx cy : Nat) (ab ax ay : Option Addr) (t x y : List Int) (w : World) (h3 : 3 ≤ q) (h4 : q ≤ 2147483647) (hm : m ≤ 6) (ht : t.length = 2 ^ m) (hx : x.length = m) (hy : y.length = m) (ft : Fits t) (fx : Fits x) (fy : Fits y) (lt : Lst w.heap.size w ab cb t) (lx : Lst w.heap.size w ax cx x) (ly : RowB w.heap.size w ay y) :
    Calls Tryz.prog 89 #[.int .i64 (q : Int), .slice ab t.length cb, .slice ax m cx, .slice ay m cy] w fun e w' => ∃ v, e = .returned v ∧ NuE w.heap.size w' v (lnz q t x y m) ∧ Below w.heap.size w w' := by
  have HON : Hid (∀ (W : World) (k : Nat), k ≤ m → Below w.heap.size w W → Calls Tryz.prog 90 #[.int .i64 (q : Int), .slice ax m cx, .slice ay m cy, .int .i64 (k : Int)] W fun e w' => ∃ a' c', e = .returned (.slice a' m c') ∧ NumL w' a' c' (onl q x y (k : Int)) ∧ Below W.heap.size W w') := fun W k hk hW => by
    have h := ron_num q cx cy ax ay x y (k : Int) W h3 h4 (by omega) (by omega) fx fy ⟨by omega, by omega⟩ ((lx.below hW).row.mono hW.size) ((ly.below hW).mono hW.size)
    rw [hx, hy] at h
    exact h
  have HEX : Hid (∀ (W : World) (k c : Nat) (a : Option Addr), Below w.heap.size w W → NumL W a c (onl q x y (k : Int)) → Calls Tryz.prog 157 #[.int .i64 (q : Int), .slice ab t.length cb, .slice a m c] W fun e w' => e = .returned (.int .i64 (Sum.ext (zat t) (zat (onl q x y (k : Int))) m % (q : Int))) ∧ w' = W) := fun W k c a hW hn =>
    rextend_any q m cb c ab a t (onl q x y (k : Int)) W _ _ h3 h4 (by rw [onl_len, hx]) (by omega) ht ft (onl_fits h3 h4 x y _) (lt.below hW).row hn.1.row
  obtain ⟨L, hL⟩ : ∃ L : Nat → List Int, L = ls (fun k => Sum.ext (zat t) (zat (onl q x y (k : Int))) m % (q : Int)) := ⟨_, rfl⟩
  have HLS : Hid (∀ k, L (k + 1) = L k ++ [Sum.ext (zat t) (zat (onl q x y (k : Int))) m % (q : Int)] ∧ (L k).length = k) := fun k => by rw [hL]; exact ⟨ls_succ _ _, ls_len _ _⟩
  have HL0 : Hid (L 0 = []) := by unfold Hid; rw [hL]; rfl
  have HLZ : Hid (lnz q t x y m = L (m + 1)) := by unfold Hid; rw [hL]; rfl
  obtain ⟨nt, hnt⟩ : ∃ nt, nt = t.length := ⟨_, rfl⟩
  rw [← hnt] at HEX ⊢
  rw [HLZ.out]
  clear hx hy ft fx fy lt lx ly ht hnt hL HLZ
  go_enter Tryz.func89, Tryz.ntmps89
  go_wp2_with fail
  go_loopw [9, 10, 11, 12] (fun ov kv _ _ wr => ∃ k : Nat, k ≤ m + 1 ∧ kv = .int .i64 (k : Int) ∧ Hid (NuE w.heap.size wr ov (L k) ∧ Below w.heap.size w wr)) (fun _ kv _ _ _ => m + 1 - (intOf kv).toNat)
  case atStart => exact ⟨0, Nat.zero_le _, rfl, by rw [HL0.out]; exact World.ownsRow_nil _ _ _ _, Below.refl _ _⟩
  case round =>
    obtain ⟨k, hk, rfl, hI⟩ := hrel
    by_cases hlt : k ≤ m
    · have hlt2 : (k : Int) ≤ (m : Int) := by omega
      have hks : IntKind.i64.wrap ((k : Int) + 1) = (k : Int) + 1 := by rw [IntKind.wrap_i64]; omega
      have HO := hid hI.out.1
      have HBI := hid hI.out.2
      have HONX := hid (HON.out wr k hlt hI.out.2)
      clear hI
      go_wp2_with fail
      refine HONX.out.mono ?_
      rintro e w5 ⟨a', c', rfl, hn5, hb5⟩
      have HB5 : Hid (Below w.heap.size w w5) := HBI.out.trans (hb5.mono HBI.out.size)
      have HEXX := hid (HEX.out w5 k c' a' HB5.out hn5)
      have HO5 : Hid (NuE w.heap.size w5 _ (L k)) := own_step HO.out hb5
      have HLK := hid (HLS.out k)
      generalize Sum.ext (zat t) (zat (onl q x y (k : Int))) m % (q : Int) = E at *
      clear hn5 hb5 HONX HO HBI
      go_wp2_with fail
      refine HEXX.out.mono ?_
      rintro e w0 ⟨rfl, hw⟩
      have hw1 := hw.symm
      subst hw1
      clear hw
      obtain ⟨lk, hlk⟩ : ∃ lk, lk = L k := ⟨_, rfl⟩
      rw [← hlk] at HO5 HLK
      have HO2 : Hid ((w5.alloc (.cells #[.int .i64 E] 3)).ownsRow w.heap.size 3 1 _ lk.length (lk.map (Value.int .i64))) := World.ownsRow.alloc HO5.out _
      have HCC : Hid ((w5.alloc (.cells #[.int .i64 E] 3)).cell? ⟨w5.heap.size, 0, none⟩ = some (.int .i64 E)) := by unfold Hid; simp
      have HSS : Hid (w.heap.size ≤ (w5.alloc (.cells #[.int .i64 E] 3)).heap.size) := by have := HB5.out.size; unfold Hid; simp; omega
      have HB2 : Hid (Below w.heap.size w (w5.alloc (.cells #[.int .i64 E] 3))) := HB5.out.alloc HB5.out.size _
      have HLE : Hid (lk.length ≤ 17592186044000) := by have := HLK.out.2; unfold Hid; omega
      clear hlk HEXX HO5
      go_wp2_with (at_builtin; refine wpList_append1 (w5.alloc (.cells #[.int .i64 E] 3)) w.heap.size w5.heap.size E rfl _ _ rfl _ rfl lk HO2.out rfl HCC.out HLE.out HSS.out ?_)
      intro v6 w6 ho6 _ _ hb6
      have HR6 : Hid (NuE w.heap.size w6 v6 (L (k + 1)) ∧ Below w.heap.size w w6) := by
        unfold Hid NuE
        rw [HLK.out.1]
        refine ⟨?_, HB2.out.trans hb6⟩
        rw [List.length_append, List.map_append]
        exact ho6
      clear ho6 hb6 HO2 HCC HSS HB2
      go_wp2_with fail
      go_roundw
      case rel => exact ⟨k + 1, by omega, by go_num, HR6⟩
      case measure => simp [intOf]; omega
    · have hlt2 : ¬ (k : Int) ≤ (m : Int) := by omega
      obtain rfl : k = m + 1 := by omega
      have HE := hid hI.out
      clear hI
      go_wp2_with fail
      go_ret
      exact ⟨_, rfl, HE.out.1, HE.out.2⟩

end Go.Proofs.YtpgnabmkfkcogaaGreatDoor
