/- attestlaw2's plain and lives: a domain without the chapter's answer; chapter 3's example. -/
import Derived.Test.YtidkhgplejglaacDomP
import Derived.Test.YtidkhgplejglaacNew
import Derived.Test.YtidkhgplejglaacRefP
import Derived.Test.YtidkhgplejglaacLaw
import Derived.Test.YtidkhgplejglaacSpoil
namespace Go.Proofs.Ytidkhgplejglaac
open Go.RowKit

/-- a domain may be made of these -/
structure GoodAt (q k : Nat) (s : Int) : Prop where
  pr : Num.Prime q
  h3 : 3 ≤ q
  h4 : q ≤ 2147483647
  hk : k ≤ 16
  hd : (q - 1) % 2 ^ k = 0
  hs : ¬ s % (q : Int) = 0
def Good (p n s : Int) : Prop := ∃ q k : Nat, p = (q : Int) ∧ n = ((2 ^ k : Nat) : Int) ∧ GoodAt q k s

theorem two_pow_le {k : Nat} (hk : k ≤ 16) : 2 ^ k ≤ 65536 := Nat.pow_le_pow_right (by decide : 0 < 2) hk

theorem not_dvd_of_emod {p : Nat} {s : Int} (h : ¬ s % (p : Int) = 0) : ¬ (p : Int) ∣ s % (p : Int) := fun hd => h (by
  have := Int.emod_eq_zero_of_dvd hd
  rwa [Int.emod_emod_of_dvd _ (Int.dvd_refl _)] at this)

set_option maxRecDepth 100000 in
set_option maxHeartbeats 1000000 in
theorem plain_yes (q k : Nat) (s : Int) (w : World) (hg : GoodAt q k s) (hs1 : -9223372036854775808 ≤ s) (hs2 : s ≤ 9223372036854775807) :
    Calls Try.prog 11 #[.int .i64 q, .int .i64 ((2 ^ k : Nat) : Int), .int .i64 s] w fun e w' =>
      ∃ (d r : Nat), e = .returned (.tuple #[.pointer (some ⟨w.heap.size, 0, none⟩), .pointer (some ⟨d, 0, none⟩)]) ∧ RootIs q ((2 ^ k : Nat) : Int) r ∧ w'.cell? ⟨w.heap.size, 0, none⟩ = some (.int .i64 q) ∧ DomAt w' d w.heap.size ((2 ^ k : Nat) : Int) r (s % (q : Int)) ∧ Below w.heap.size w w' := by
  obtain ⟨hpr, h3, h4, hk, hd, hs⟩ := hg
  have HN := hid (new_yes q w h3 h4 hpr)
  have HD : Hid (∀ w1 : World, w1.cell? ⟨w.heap.size, 0, none⟩ = some (.int .i64 q) → Calls Try.prog 23 #[.pointer (some ⟨w.heap.size, 0, none⟩), .int .i64 ((2 ^ k : Nat) : Int), .int .i64 s] w1 fun e w' =>
      ∃ (d r : Nat), e = .returned (.tuple #[.pointer (some ⟨d, 0, none⟩), .nilIface]) ∧ w1.heap.size ≤ d ∧ RootIs q ((2 ^ k : Nat) : Int) r ∧ DomAt w' d w.heap.size ((2 ^ k : Nat) : Int) r (s % (q : Int)) ∧ Below w1.heap.size w1 w') :=
    fun w1 h => dnew_ok q w.heap.size k s w1 hpr h3 h4 h hk hd hs1 hs2 hs
  clear hpr hd hs
  generalize ((2 ^ k : Nat) : Int) = n at *
  generalize s % (q : Int) = t at *
  go_enter Try.func11, Try.ntmps11
  go_wp2_with fail
  refine HN.out.mono ?_
  rintro e w1 ⟨rfl, hc1, hb1, hlt1⟩
  have HC1 := hid hc1
  have HB1 := hid hb1
  clear hc1 hb1
  go_wp2_with fail
  refine (HD.out w1 HC1.out).mono ?_
  rintro e w2 ⟨d, r, rfl, hld, hr, hda, hb2⟩
  have HE := hid (And.intro hr (And.intro ((hb2.cell (p := ⟨w.heap.size, 0, none⟩) hlt1).trans HC1.out) (And.intro hda (HB1.out.trans (hb2.mono (by omega))))))
  clear hr hda hb2
  go_wp2_with fail
  go_ret2
  exact ⟨d, r, rfl, HE.out.1, HE.out.2.1, HE.out.2.2.1, HE.out.2.2.2⟩

set_option maxRecDepth 100000 in
set_option maxHeartbeats 1000000 in
theorem plain_no (p n s : Int) (w : World) (hno : ¬ Good p n s) (hp1 : -9223372036854775808 ≤ p) (hp2 : p ≤ 9223372036854775807) (hn1 : -9223372036854775808 ≤ n) (hn2 : n ≤ 9223372036854775807) (hs1 : -9223372036854775808 ≤ s) (hs2 : s ≤ 9223372036854775807) :
    Calls Try.prog 11 #[.int .i64 p, .int .i64 n, .int .i64 s] w fun e w' => e = .returned (.tuple #[.pointer none, .pointer none]) ∧ Below w.heap.size w w' := by
  by_cases hok : okPrime p
  · obtain ⟨q, rfl⟩ := Int.eq_ofNat_of_zero_le (show 0 ≤ p by have := hok.1; omega)
    obtain ⟨hq3, hq4, hqp⟩ := hok
    rw [Int.toNat_natCast] at hqp
    have h3 : 3 ≤ q := by omega
    have h4 : q ≤ 2147483647 := by omega
    have HN := hid (new_yes q w h3 h4 hqp)
    have HD : Hid (∀ w1 : World, w1.cell? ⟨w.heap.size, 0, none⟩ = some (.int .i64 q) → Calls Try.prog 23 #[.pointer (some ⟨w.heap.size, 0, none⟩), .int .i64 n, .int .i64 s] w1 fun e w' => ∃ c : Int, e = .returned (.tuple #[.pointer none, .iface 44 (.int .i64 c)]) ∧ w' = w1) := fun w1 h => by
      by_cases hsz : SizeOk q n
      · obtain ⟨k, hk, rfl, hd⟩ := hsz
        by_cases hs : s % (q : Int) = 0
        · exact (dnew_range q w.heap.size k s w1 h3 h4 h hk hd hs1 hs2 hs).mono fun e w' ⟨h1, h2⟩ => ⟨3, h1, h2⟩
        · exact absurd ⟨q, k, rfl, rfl, hqp, h3, h4, hk, hd, hs⟩ hno
      · exact (dnew_size q w.heap.size n s w1 h3 h4 h hsz hn1 hn2).mono fun e w' ⟨h1, h2⟩ => ⟨2, h1, h2⟩
    clear hno hqp
    go_enter Try.func11, Try.ntmps11
    go_wp2_with fail
    refine HN.out.mono ?_
    rintro e w1 ⟨rfl, hc1, hb1, hlt1⟩
    have HC1 := hid hc1
    have HB1 := hid hb1
    clear hc1 hb1
    go_wp2_with fail
    refine (HD.out w1 HC1.out).mono ?_
    rintro e w2 ⟨c, rfl, rfl⟩
    go_wp2_with fail
    go_ret2
    exact ⟨rfl, HB1.out⟩
  · have HN := hid (new_no p w hok hp1 hp2)
    clear hno hok
    go_enter Try.func11, Try.ntmps11
    go_wp2_with fail
    refine HN.out.mono ?_
    rintro e w1 ⟨rfl, rfl⟩
    go_wp2_with fail
    go_ret2
    exact ⟨rfl, Below.refl _ _⟩

theorem root17 : RootIs 17 ((2 ^ 2 : Nat) : Int) 13 := Or.inr ⟨by decide, by decide, 3, gen17, by decide⟩

theorem rowB_of_rowIs {w : World} {g n n0 : Nat} {f : Nat → Int} {zs : List Int} (h : w.rowIs g 3 n (fun j => .int .i64 (f j))) (hn : zs.length ≤ n) (hz : ∀ j, j < zs.length → zat zs j = f j) (hg : g < n0) : RowB n0 w (some ⟨g, 0, none⟩) zs :=
  fun k hk => ⟨g, 0, rfl, hg, by rw [Nat.zero_add, hz k hk]; exact h.cell (by omega)⟩

set_option maxRecDepth 100000 in
set_option maxHeartbeats 1000000 in
theorem lives2_any (w : World) : Calls Try.prog 10 #[] w fun e w' => e = .returned (.bool true) ∧ Below w.heap.size w w' := by
  have HG : Hid (GoodAt 17 2 3) := ⟨prime17, by decide, by decide, by decide, by decide, by decide⟩
  go_enter Try.func10, Try.ntmps10
  go_wp2_with fail
  refine (plain_yes 17 2 3 w HG.out (by decide) (by decide)).mono ?_
  rintro e w1 ⟨d, r, rfl, hr, hc1, hda, hb1⟩
  obtain rfl : r = 13 := rootIs_unique hr root17
  have hord := (root_ord2 prime17 (by decide) (by decide) hr).1
  have HORD := hid hord
  have HC1 := hid hc1
  have HDA := hid hda
  have HB1 := hid hb1
  have hlt := heap_lt hc1
  clear hr hord hc1 hda hb1
  have HBL : Hid (Below w1.heap.size w1 (w1.alloc (.cells #[.int .i64 1, .int .i64 1] 3))) := (Below.refl _ _).alloc (Nat.le_refl _) _
  have HV := hid (values_any 17 w.heap.size d 2 4 2 13 3 (fun b => b = w1.heap.size) (some ⟨w1.heap.size, 0, none⟩) [1, 1] (w1.alloc (.cells #[.int .i64 1, .int .i64 1] 3)) prime17 (by decide) (by decide)
    ((HBL.out.cell (p := ⟨w.heap.size, 0, none⟩) hlt).trans HC1.out) (HDA.out.below HBL.out HDA.out.lt) (by decide) (by decide) (by decide) (by decide) HORD.out (by decide) (by decide) (by decide)
    (fun j hj => by
      have : j = 0 ∨ j = 1 := by simp at hj; omega
      rcases this with rfl | rfl <;> simp [zat])
    (fun k hk => by
      have : k = 0 ∨ k = 1 := by simp at hk; omega
      rcases this with rfl | rfl <;> exact ⟨w1.heap.size, 0, rfl, rfl, by simp [zat]⟩)
    (fun k hk => by subst hk; simp))
  go_wp2_with fail
  refine HV.out.mono ?_
  rintro e w2 ⟨rfl, hri, hb2, hlt2⟩
  have HRI := hid hri
  have HB2 : Hid (Below w.heap.size w w2) := HB1.out.trans ((HBL.out.mono (by omega)).trans (hb2.mono (by simp; omega)))
  clear hri hb2 HV HBL
  have hsz : (w1.alloc (.cells #[.int .i64 1, .int .i64 1] 3)).heap.size = w1.heap.size + 1 := by simp
  rw [hsz] at HRI hlt2
  rw [hsz]
  clear hsz
  have HR1 : Hid (RowB w2.heap.size (w2.alloc (.cells #[.int .i64 4, .int .i64 6, .int .i64 15, .int .i64 13] 3)) (some ⟨w1.heap.size + 1, 0, none⟩) [4, 6, 15, 13]) :=
    rowB_of_rowIs (HRI.out.alloc _) (by decide) (fun j hj => by
      have : j = 0 ∨ j = 1 ∨ j = 2 ∨ j = 3 := by simp at hj; omega
      rcases this with rfl | rfl | rfl | rfl <;> decide) hlt2
  have HR2 : Hid (RowB (w2.heap.size + 1) (w2.alloc (.cells #[.int .i64 4, .int .i64 6, .int .i64 15, .int .i64 13] 3)) (some ⟨w2.heap.size, 0, none⟩) [4, 6, 15, 13]) := fun k hk => by
      have : k = 0 ∨ k = 1 ∨ k = 2 ∨ k = 3 := by simp at hk; omega
      rcases this with rfl | rfl | rfl | rfl <;> exact ⟨w2.heap.size, 0, rfl, by omega, by simp [zat]⟩
  have HI := hid (ints_same _ _ [4, 6, 15, 13] _ _ 4 4 (w2.alloc (.cells #[.int .i64 4, .int .i64 6, .int .i64 15, .int .i64 13] 3)) HR1.out HR2.out (by decide))
  go_wp2_with fail
  refine HI.out.mono ?_
  rintro e w3 ⟨rfl, n3, rfl⟩
  go_wp2_with fail
  go_ret
  exact ⟨rfl, below_drewN (HB2.out.alloc HB2.out.size _) n3⟩

end Go.Proofs.Ytidkhgplejglaac
