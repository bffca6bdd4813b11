/- Package domain: mayBeSize and New. -/
import Derived.Test.YtidkhgplejglaacDoorDomA
import Derived.RegionTactic
namespace Go.Proofs.YtidkhgplejglaacDoor
open Go.RowKit

theorem sizeOk_nat {p k : Nat} (h3 : 3 ≤ p) (h : (p - 1) % 2 ^ k = 0) : ((p : Int) - 1) % ((2 ^ k : Nat) : Int) = 0 := by
  rw [show (p : Int) - 1 = ((p - 1 : Nat) : Int) from by omega, ← Int.natCast_emod, h]; rfl

set_option maxRecDepth 100000 in
theorem may_yes (p b k : Nat) (w : World) (h3 : 3 ≤ p) (hm : p ≤ 2147483647) (hp : w.cell? ⟨b, 0, none⟩ = some (.int .i64 p)) (hk : k ≤ 16) (hd : (p - 1) % 2 ^ k = 0) :
    Calls Tryd.prog 41 #[.pointer (some ⟨b, 0, none⟩), .int .i64 ((2 ^ k : Nat) : Int)] w fun e w' => e = .returned (.bool true) ∧ w' = w := by
  have hd2 : (((p : Int) - 1) % ((2 ^ k : Nat) : Int) == 0) = true := by rw [sizeOk_nat h3 hd]; rfl
  have hlt : 2 ^ k ≤ 65536 := Nat.pow_le_pow_right (by decide : 0 < 2) hk
  have hpos : 1 ≤ 2 ^ k := Nat.pow_pos (by decide)
  have HO := hid (ones_any (2 ^ k) w hlt)
  rw [(pnz_one hlt).2 ⟨k, hk, rfl⟩] at HO
  have HP := hid (p_any p b w hp)
  clear hd
  generalize 2 ^ k = n at *
  go_enter Tryd.func41, Tryd.ntmps41
  go_wp2_with fail
  refine HO.out.mono ?_
  rintro e w1 ⟨rfl, rfl⟩
  go_wp2_with fail
  refine HP.out.mono ?_
  rintro e w1 ⟨rfl, rfl⟩
  go_wp2_with fail
  go_ret
  exact ⟨rfl, rfl⟩

set_option maxRecDepth 100000 in
theorem may_no (p b : Nat) (n : Int) (w : World) (h3 : 3 ≤ p) (hm : p ≤ 2147483647) (hp : w.cell? ⟨b, 0, none⟩ = some (.int .i64 p)) (hno : ¬ SizeOk p n) (hn1 : -9223372036854775808 ≤ n) (hn2 : n ≤ 9223372036854775807) :
    Calls Tryd.prog 41 #[.pointer (some ⟨b, 0, none⟩), .int .i64 n] w fun e w' => e = .returned (.bool false) ∧ w' = w := by
  by_cases h1 : n < 1
  · have h1b : ¬ 1 ≤ n := by omega
    clear hno
    go_enter Tryd.func41, Tryd.ntmps41
    go_wp2_with fail
    go_ret
    exact ⟨rfl, rfl⟩
  · by_cases h2 : 65536 < n
    · have h2b : ¬ n ≤ 65536 := by omega
      clear hno
      go_enter Tryd.func41, Tryd.ntmps41
      go_wp2_with fail
      go_ret
      exact ⟨rfl, rfl⟩
    · obtain ⟨m, rfl⟩ := Int.eq_ofNat_of_zero_le (show 0 ≤ n by omega)
      have HO := hid (ones_any m w (by omega))
      have HP := hid (p_any p b w hp)
      by_cases ho : pnz m = 1
      · obtain ⟨k, hk, rfl⟩ := (pnz_one (by omega)).1 ho
        have hd : ¬ (p - 1) % 2 ^ k = 0 := fun h => hno ⟨k, hk, rfl, h⟩
        have hd2 : (((p : Int) - 1) % ((2 ^ k : Nat) : Int) == 0) = false := by
          rw [beq_eq_false_iff_ne]
          intro h
          rw [show (p : Int) - 1 = ((p - 1 : Nat) : Int) from by omega, ← Int.natCast_emod] at h
          omega
        rw [ho] at HO
        clear hno hd ho
        generalize 2 ^ k = n at *
        go_enter Tryd.func41, Tryd.ntmps41
        go_wp2_with fail
        refine HO.out.mono ?_
        rintro e w1 ⟨rfl, rfl⟩
        go_wp2_with fail
        refine HP.out.mono ?_
        rintro e w1 ⟨rfl, rfl⟩
        go_wp2_with fail
        go_ret
        exact ⟨rfl, rfl⟩
      · have hb : ((pnz m : Int) == 1) = false := by rw [beq_eq_false_iff_ne]; omega
        clear hno ho
        generalize pnz m = c at *
        go_enter Tryd.func41, Tryd.ntmps41
        go_wp2_with fail
        refine HO.out.mono ?_
        rintro e w1 ⟨rfl, rfl⟩
        go_wp2_with fail
        go_ret
        exact ⟨rfl, rfl⟩

/-- a domain in memory -/
structure DomAt (w : World) (d b : Nat) (n r s : Int) : Prop where
  f : w.cell? ⟨d, 0, none⟩ = some (.pointer (some ⟨b, 0, none⟩))
  n : w.cell? ⟨d, 1, none⟩ = some (.int .i64 n)
  r : w.cell? ⟨d, 2, none⟩ = some (.int .i64 r)
  s : w.cell? ⟨d, 3, none⟩ = some (.int .i64 s)
theorem DomAt.lt {w : World} {d b : Nat} {n r s : Int} (h : DomAt w d b n r s) : d < w.heap.size := by
  rcases Nat.lt_or_ge d w.heap.size with g | g
  · exact g
  · have := h.f; simp [World.cell?, Array.getElem?_eq_none g] at this
theorem DomAt.below {w w' : World} {d b n0 : Nat} {n r s : Int} (h : DomAt w d b n r s) (e : Below n0 w w') (hd : d < n0) : DomAt w' d b n r s :=
  ⟨(e.cell (p := ⟨d, 0, none⟩) hd).trans h.f, (e.cell (p := ⟨d, 1, none⟩) hd).trans h.n, (e.cell (p := ⟨d, 2, none⟩) hd).trans h.r, (e.cell (p := ⟨d, 3, none⟩) hd).trans h.s⟩

set_option maxRecDepth 100000 in
theorem dnew_size (p b : Nat) (n s : Int) (w : World) (h3 : 3 ≤ p) (hm : p ≤ 2147483647) (hp : w.cell? ⟨b, 0, none⟩ = some (.int .i64 p)) (hno : ¬ SizeOk p n) (hn1 : -9223372036854775808 ≤ n) (hn2 : n ≤ 9223372036854775807) :
    Calls Tryd.prog 24 #[.pointer (some ⟨b, 0, none⟩), .int .i64 n, .int .i64 s] w fun e w' => e = .returned (.tuple #[.pointer none, .iface 61 (.int .i64 2)]) ∧ w' = w := by
  have HM := hid (may_no p b n w h3 hm hp hno hn1 hn2)
  clear hno
  go_enter Tryd.func24, Tryd.ntmps24
  go_wp2_with fail
  refine HM.out.mono ?_
  rintro e w1 ⟨rfl, rfl⟩
  go_wp2_with fail
  go_ret2
  exact ⟨rfl, rfl⟩

set_option maxRecDepth 100000 in
theorem dnew_range (p b k : Nat) (s : Int) (w : World) (h3 : 3 ≤ p) (hm : p ≤ 2147483647) (hp : w.cell? ⟨b, 0, none⟩ = some (.int .i64 p)) (hk : k ≤ 16) (hd : (p - 1) % 2 ^ k = 0)
    (hs1 : -9223372036854775808 ≤ s) (hs2 : s ≤ 9223372036854775807) (hs : s % (p : Int) = 0) :
    Calls Tryd.prog 24 #[.pointer (some ⟨b, 0, none⟩), .int .i64 ((2 ^ k : Nat) : Int), .int .i64 s] w fun e w' => e = .returned (.tuple #[.pointer none, .iface 61 (.int .i64 3)]) ∧ w' = w := by
  have HM := hid (may_yes p b k w h3 hm hp hk hd)
  have HO := hid (of_any p b s w h3 hm hp hs1 hs2)
  rw [hs] at HO
  clear hd hs
  generalize 2 ^ k = n at *
  go_enter Tryd.func24, Tryd.ntmps24
  go_wp2_with fail
  refine HM.out.mono ?_
  rintro e w1 ⟨rfl, rfl⟩
  go_wp2_with fail
  refine HO.out.mono ?_
  rintro e w1 ⟨rfl, rfl⟩
  go_wp2_with fail
  go_ret2
  exact ⟨rfl, rfl⟩

set_option maxRecDepth 100000 in
set_option maxHeartbeats 1000000 in
theorem dnew_ok (p b k : Nat) (s : Int) (w : World) (hpr : Num.Prime p) (h3 : 3 ≤ p) (hm : p ≤ 2147483647) (hp : w.cell? ⟨b, 0, none⟩ = some (.int .i64 p)) (hk : k ≤ 16) (hd : (p - 1) % 2 ^ k = 0)
    (hs1 : -9223372036854775808 ≤ s) (hs2 : s ≤ 9223372036854775807) (hs : ¬ s % (p : Int) = 0) :
    Calls Tryd.prog 24 #[.pointer (some ⟨b, 0, none⟩), .int .i64 ((2 ^ k : Nat) : Int), .int .i64 s] w fun e w' =>
      ∃ (d r : Nat), e = .returned (.tuple #[.pointer (some ⟨d, 0, none⟩), .nilIface]) ∧ w.heap.size ≤ d ∧ RootIs p ((2 ^ k : Nat) : Int) r ∧ DomAt w' d b ((2 ^ k : Nat) : Int) r (s % (p : Int)) ∧ Below w.heap.size w w' := by
  have hbl : b < w.heap.size := by
    rcases Nat.lt_or_ge b w.heap.size with g | g
    · exact g
    · simp [World.cell?, Array.getElem?_eq_none g] at hp
  have hlt : 2 ^ k ≤ 65536 := Nat.pow_le_pow_right (by decide : 0 < 2) hk
  have HM := hid (may_yes p b k w h3 hm hp hk hd)
  have HO : Hid (∀ w1 : World, w1.cell? ⟨b, 0, none⟩ = some (.int .i64 p) → Calls Tryd.prog 42 #[.pointer (some ⟨b, 0, none⟩), .int .i64 s] w1 fun e w' => e = .returned (.int .i64 (s % p)) ∧ w' = w1) := fun w1 h => of_any p b s w1 h3 hm h hs1 hs2
  have HR : Hid (∀ w1 : World, w1.cell? ⟨b, 0, none⟩ = some (.int .i64 p) → b < w1.heap.size → Calls Tryd.prog 43 #[.pointer (some ⟨b, 0, none⟩), .int .i64 ((2 ^ k : Nat) : Int)] w1 fun e w' => ∃ r : Nat, e = .returned (.int .i64 r) ∧ RootIs p ((2 ^ k : Nat) : Int) r ∧ Below w1.heap.size w1 w') :=
    fun w1 h hb => root_any p b _ w1 hpr h3 hm h hb (by omega) (by omega)
  have hsb : (s % (p : Int) == 0) = false := by rw [beq_eq_false_iff_ne]; exact hs
  clear hd hs
  generalize 2 ^ k = n at *
  generalize s % (p : Int) = t at *
  go_enter Tryd.func24, Tryd.ntmps24
  go_wp2_with fail
  refine HM.out.mono ?_
  rintro e w1 ⟨rfl, rfl⟩
  go_wp2_with fail
  refine (HO.out _ hp).mono ?_
  rintro e w1 ⟨rfl, rfl⟩
  go_wp2_with fail
  refine (HR.out _ hp hbl).mono ?_
  rintro e w2 ⟨r, rfl, hg, hbel⟩
  have hp1 := (hbel.cell (p := ⟨b, 0, none⟩) hbl).trans hp
  have HG := hid hg
  have HB := hid hbel
  have hsz := hbel.size
  clear hg hbel
  go_wp2_with fail
  refine (HO.out _ hp1).mono ?_
  rintro e w3 ⟨rfl, rfl⟩
  go_wp2_with fail
  go_ret2
  exact ⟨_, r, rfl, by simpa using hsz, HG.out, ⟨by simp, by simp, by simp, by simp⟩, (HB.out.alloc hsz _)⟩

end Go.Proofs.YtidkhgplejglaacDoor
