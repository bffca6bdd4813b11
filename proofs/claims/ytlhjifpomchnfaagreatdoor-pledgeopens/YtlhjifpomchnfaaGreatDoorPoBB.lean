
import Derived.Test.YtlhjifpomchnfaaGreatDoorPoBA
import Derived.Test.YtlhjifpomchnfaaGreatDoorDoms
import Derived.Test.YtlhjifpomchnfaaGreatDoorPoAV
import Derived.Test.YtlhjifpomchnfaaGreatDoorPoAP
import Derived.Test.YtlhjifpomchnfaaGreatDoorCodA
import Derived.Test.YtlhjifpomchnfaaGreatDoorPls
import Derived.Test.YtlhjifpomchnfaaGreatDoorPoAA
set_option maxRecDepth 1000000
set_option maxHeartbeats 8000000
namespace Go.Proofs.YtlhjifpomchnfaaGreatDoor
open Go.RowKit
open Go.RowKit Pol
theorem DO.of {w : World} {q k b d r : Nat} {s : Int} (hg : GoodAt q k s) (hr : RootIs q ((2 ^ k : Nat) : Int) r) (hc : w.cell? ⟨b, 0, none⟩ = some (.int .i64 q)) (hd : DomAt w d b ((2 ^ k : Nat) : Int) r (s % (q : Int))) : DO w q b d (2 ^ k) r (s % (q : Int)) := by
 obtain ⟨h1, h2⟩ := root_ord2 hg.pr hg.h3 hg.hd hr
 obtain ⟨t0, t1⟩ := emod_bounds s q hg.h3
 exact ⟨hg.pr, hg.h3, hg.h4, hc, hd, ⟨k, hg.hk, rfl⟩, by omega, by omega, h1, t0, t1, not_dvd_of_emod hg.hs⟩
structure GoodT (q k : Nat) (s : Int) : Prop where
 at' : GoodAt q k s
 h23 : 23 <= q
def Good10 (p n s : Int) : Prop := ∃ q k : Nat, p = (q : Int) /\ n = ((2 ^ k : Nat) : Int) /\ GoodT q k s
theorem things_yes (q k : Nat) (s : Int) (w : World) (hg : GoodT q k s) (hs1 : -9223372036854775808 <= s) (hs2 : s <= 9223372036854775807) :
  Calls Tryz.prog 5 #[.int .i64 q, .int .i64 ((2 ^ k : Nat) : Int), .int .i64 s] w fun e w' =>
   ∃ (sp b n dd d r : Nat), e = .returned (.tuple #[.pointer (some ⟨sp, 0, none⟩), .pointer (some ⟨d, 0, none⟩), .bool true]) /\ SpgOk q n dd /\ SpgAt w' sp b q n dd /\ RootIs q ((2 ^ k : Nat) : Int) r /\ DO w' q b d (2 ^ k) r (s % (q : Int)) /\ Below w.heap.size w w' := by
 have HG := hid hg
 obtain ⟨⟨hpr, h3, h4, hk, hd, hs⟩, h23⟩ := hg
 have hle := two_pow_le hk
 have HSP := hid (sponge_yes q w h23 h4 hpr)
 have HD : Hid (∀ (b : Nat) (w1 : World), w1.cell? ⟨b, 0, none⟩ = some (.int .i64 q) -> Calls Tryz.prog 22 #[.pointer (some ⟨b, 0, none⟩), .int .i64 ((2 ^ k : Nat) : Int), .int .i64 s] w1 fun e w' =>
   ∃ (d r : Nat), e = .returned (.tuple #[.pointer (some ⟨d, 0, none⟩), .nilIface]) /\ w1.heap.size <= d /\ RootIs q ((2 ^ k : Nat) : Int) r /\ DomAt w' d b ((2 ^ k : Nat) : Int) r (s % (q : Int)) /\ Below w1.heap.size w1 w') :=
  fun b w1 h => dnew_ok q b k s w1 hpr h3 h4 h hk hd hs1 hs2 hs
 have HF : Hid (∀ w1 : World, Calls Tryz.prog 28 #[.int .i64 q, .int .i64 ((2 ^ k : Nat) : Int), .int .i64 s] w1 fun e w' => e = .returned (.int .i64 0) /\ w' = w1) := fun w1 =>
  (fault_any q ((2 ^ k : Nat) : Int) s w1 h3 h4 (by omega) (by omega) hs1 hs2).mono fun e w' ⟨c, h1, h2, h5⟩ => by
   rcases h2 with ⟨h2, _⟩ | ⟨_, h2, _⟩ | ⟨_, _, rfl⟩
   ·exact absurd ⟨k, hk, rfl, hd⟩ h2
   ·exact absurd h2 hs
   ·exact ⟨h1, h5⟩
 have HDO : Hid (∀ (w : World) (b d r : Nat), RootIs q ((2 ^ k : Nat) : Int) r -> w.cell? ⟨b, 0, none⟩ = some (.int .i64 q) -> DomAt w d b ((2 ^ k : Nat) : Int) r (s % (q : Int)) -> DO w q b d (2 ^ k) r (s % (q : Int))) := fun w b d r h1 h2 h5 => DO.of HG.out.at' h1 h2 h5
 clear hpr hd hs hle HG
 generalize ((2 ^ k : Nat) : Int) = n at *
 generalize s % (q : Int) = t at *
 go_enter Tryz.func5, Tryz.ntmps5
 go_wp2_with fail
 refine HSP.out.mono ?_
 rintro e w1 ⟨sp, b, N, dd, rfl, hok, hsp, hb1⟩
 have HOK := hid hok
 have HS1 := hid hsp
 have HB1 := hid hb1
 clear hok hsp hb1 HSP
 go_wp2_with fail
 refine (sfield_any q N dd b sp w1 HS1.out).mono ?_
 rintro e w2 ⟨rfl, hw2⟩
 have hw2' := hw2.symm
 subst hw2'
 clear hw2
 go_wp2_with fail
 refine (HD.out b w1 HS1.out.p).mono ?_
 rintro e w3 ⟨d, r, rfl, hld, hr, hda, hb3⟩
 have HRR := hid hr
 have HS3 : Hid (SpgAt w3 sp b q N dd) := HS1.out.keep hb3
 have HDO3 := hid (HDO.out w3 b d r hr HS3.out.p hda)
 have HB3 : Hid (Below w.heap.size w w3) := HB1.out.trans (hb3.mono HB1.out.size)
 clear hr hda hb3 hld HD
 go_wp2_with fail
 refine (HF.out _).mono ?_
 rintro e w4 ⟨rfl, hw4⟩
 have hw4' := hw4.symm
 subst hw4'
 clear hw4 HF
 go_wp2_with fail
 refine (error_nil 0 _).mono ?_
 rintro e w4 ⟨rfl, hw4⟩
 have hw4' := hw4.symm
 subst hw4'
 clear hw4
 go_wp2_with fail
 go_ret3
 exact ⟨sp, b, N, dd, d, r, rfl, HOK.out, HS3.out, HRR.out, HDO3.out, HB3.out⟩
theorem things_no (p n s : Int) (w : World) (hL : Laid w) (hno : ¬ Good10 p n s) (hp1 : -9223372036854775808 <= p) (hp2 : p <= 9223372036854775807) (hn1 : -9223372036854775808 <= n) (hn2 : n <= 9223372036854775807) (hs1 : -9223372036854775808 <= s) (hs2 : s <= 9223372036854775807) :
  Calls Tryz.prog 5 #[.int .i64 p, .int .i64 n, .int .i64 s] w fun e w' => e = .returned (.tuple #[.pointer none, .pointer none, .bool true]) /\ Below w.heap.size w w' := by
 have HL := hid hL
 by_cases hok : GoodS p
 ·obtain ⟨q, rfl⟩ := Int.eq_ofNat_of_zero_le (show 0 <= p by have := hok.2; omega)
  obtain ⟨⟨hq3, hq4, hqp⟩, h23⟩ := hok
  rw [Int.toNat_natCast] at hqp
  have h3 : 3 <= q := by omega
  have h4 : q <= 2147483647 := by omega
  have HSP := hid (sponge_yes q w (by omega) h4 hqp)
  obtain ⟨c, hc, hcn, HD⟩ : ∃ c : Int, (c = 2 ∨ c = 3) /\ FaultIs q n s c /\ Hid (∀ (b : Nat) (w1 : World), w1.cell? ⟨b, 0, none⟩ = some (.int .i64 q) -> Calls Tryz.prog 22 #[.pointer (some ⟨b, 0, none⟩), .int .i64 n, .int .i64 s] w1 fun e w' => e = .returned (.tuple #[.pointer none, .iface 90 (.int .i64 c)]) /\ w' = w1) := by
   by_cases hsz : SizeOk q n
   ·have hsz2 := hsz
    obtain ⟨k, hk, rfl, hd⟩ := hsz
    by_cases hs : s % (q : Int) = 0
    ·exact ⟨3, Or.inr rfl, Or.inr (Or.inl ⟨hsz2, hs, rfl⟩), fun b w1 h => dnew_range q b k s w1 h3 h4 h hk hd hs1 hs2 hs⟩
    ·exact absurd ⟨q, k, rfl, rfl, ⟨hqp, h3, h4, hk, hd, hs⟩, by omega⟩ hno
   ·exact ⟨2, Or.inl rfl, Or.inl ⟨hsz, rfl⟩, fun b w1 h => dnew_size q b n s w1 h3 h4 h hsz hn1 hn2⟩
  have HF : Hid (∀ w1 : World, Calls Tryz.prog 28 #[.int .i64 q, .int .i64 n, .int .i64 s] w1 fun e w' => e = .returned (.int .i64 c) /\ w' = w1) := fun w1 =>
   (fault_any q n s w1 h3 h4 hn1 hn2 hs1 hs2).mono fun e w' ⟨c', h1, h2, h5⟩ => by
    obtain rfl : c' = c := by
     rcases h2 with ⟨a1, a2⟩ | ⟨a1, a2, a3⟩ | ⟨a1, a2, a3⟩ <;> rcases hcn with ⟨b1, b2⟩ | ⟨b1, b2, b3⟩ | ⟨b1, b2, b3⟩ <;> first | omega | exact absurd b1 a1 | exact absurd a1 b1 | exact absurd b2 a2 | exact absurd a2 b2
    exact ⟨h1, h5⟩
  have hc0 : (c != 0) = true := by rw [bne_iff_ne]; omega
  have hcc : (c == c) = true := by simp
  clear hno hqp hc hcn hL
  go_enter Tryz.func5, Tryz.ntmps5
  go_wp2_with fail
  refine HSP.out.mono ?_
  rintro e w1 ⟨sp, b, N, dd, rfl, _, hsp, hb1⟩
  have HS1 := hid hsp
  have HB1 := hid hb1
  clear hsp hb1 HSP
  go_wp2_with fail
  refine (sfield_any q N dd b sp w1 HS1.out).mono ?_
  rintro e w2 ⟨rfl, hw2⟩
  have hw2' := hw2.symm
  subst hw2'
  clear hw2
  go_wp2_with fail
  refine (HD.out b w1 HS1.out.p).mono ?_
  rintro e w2 ⟨rfl, hw2⟩
  have hw2' := hw2.symm
  subst hw2'
  clear hw2
  go_wp2_with fail
  refine (HF.out _).mono ?_
  rintro e w2 ⟨rfl, hw2⟩
  have hw2' := hw2.symm
  subst hw2'
  clear hw2
  have HL3 : Hid (Laid w1) := HL.out.below HB1.out
  go_wp2_with fail
  refine (error_hit c c w1 HL3.out).mono ?_
  rintro e w4 ⟨rfl, hb4⟩
  have HB4 : Hid (Below w.heap.size w w4) := HB1.out.trans (hb4.mono HB1.out.size)
  rw [hcc]
  clear hb4 HD HF HL HL3 hcc
  go_wp2_with fail
  go_ret3
  exact ⟨rfl, HB4.out⟩
 ·have HN := hid (sponge_no p w hL hok hp1 hp2)
  clear hno hok hL
  go_enter Tryz.func5, Tryz.ntmps5
  go_wp2_with fail
  refine HN.out.mono ?_
  rintro e w4 ⟨rfl, hb4⟩
  have HB4 := hid hb4
  clear hb4
  go_wp2_with fail
  go_ret3
  exact ⟨rfl, HB4.out⟩
end Go.Proofs.YtlhjifpomchnfaaGreatDoor
