/- What package fold's Fold must answer; attestlaw5.plain, lives. -/
import Derived.Test.YtbbjbhiihfnkmahFolQ
import Derived.Test.YtbbjbhiihfnkmahDoms
namespace Go.Proofs.Ytbbjbhiihfnkmah
open Go.RowKit

theorem DO.cir {w : World} {p b d n : Nat} {r s : Int} (D : DO w p b d n r s) : Fol.Cir p n r s := ⟨D.pr, D.h3, D.ord, D.hsd⟩
/-- what Fold must answer -/
def FldAs : Prop := ∀ (p b d n cap : Nat) (a : Option Addr) (r s c : Int) (word : List Int) (W : World), DO W p b d n r s → word.length ≤ 17592186043904 → Fits word → Lst W.heap.size W a cap word → -9223372036854775808 ≤ c → c ≤ 9223372036854775807 →
  Calls Try.prog 9 #[.pointer (some ⟨d, 0, none⟩), .slice a word.length cap, .int .i64 c] W fun e w' => Below W.heap.size W w' ∧
    ((word.length = n ∧ 1 < n) → ∃ a' c', e = .returned (.tuple #[.slice a' (n / 2) c', .nilIface]) ∧ Lst w'.heap.size w' a' c' (Fol.foldz p (n / 2) r s word c)) ∧
    (¬ (word.length = n ∧ 1 < n) → ∃ a' c', e = .returned (.tuple #[.slice a' 0 c', .iface 55 (.int .i64 2)]))

/-- a domain and half of it -/
structure Dh (w : World) (q b d h m : Nat) (r s : Int) : Prop where
  dom : DO w q b d (2 * m) r s
  half : DO w q b h m (r * r % (q : Int)) (s * s % (q : Int))
theorem Dh.step {w w' : World} {q b d h m : Nat} {r s : Int} (D : Dh w q b d h m r s) (e : Below w.heap.size w w') : Dh w' q b d h m r s := ⟨D.dom.step e, D.half.step e⟩
def Good5 (p n s : Int) : Prop := ∃ q k : Nat, p = (q : Int) ∧ n = ((2 ^ (k + 1) : Nat) : Int) ∧ GoodAt q (k + 1) s

set_option maxRecDepth 100000 in
set_option maxHeartbeats 1000000 in
theorem plain5_yes (q k : Nat) (s : Int) (w : World) (hg : GoodAt q (k + 1) s) (hs1 : -9223372036854775808 ≤ s) (hs2 : s ≤ 9223372036854775807) :
    Calls Try.prog 7 #[.int .i64 q, .int .i64 ((2 ^ (k + 1) : Nat) : Int), .int .i64 s] w fun e w' =>
      ∃ (b d h r : Nat), e = .returned (.tuple #[.pointer (some ⟨b, 0, none⟩), .pointer (some ⟨d, 0, none⟩), .pointer (some ⟨h, 0, none⟩)]) ∧ RootIs q ((2 ^ (k + 1) : Nat) : Int) r ∧ Dh w' q b d h (2 ^ k) r (s % (q : Int)) ∧ Below w.heap.size w w' := by
  obtain ⟨hpr, h3, h4, hk, hd, hs⟩ := hg
  have HN := hid (new_yes q w h3 h4 hpr)
  have HD : Hid (∀ w1 : World, w1.cell? ⟨w.heap.size, 0, none⟩ = some (.int .i64 q) → Calls Try.prog 22 #[.pointer (some ⟨w.heap.size, 0, none⟩), .int .i64 ((2 ^ (k + 1) : Nat) : Int), .int .i64 s] w1 fun e w' =>
      ∃ (d r : Nat), e = .returned (.tuple #[.pointer (some ⟨d, 0, none⟩), .nilIface]) ∧ w1.heap.size ≤ d ∧ RootIs q ((2 ^ (k + 1) : Nat) : Int) r ∧ DomAt w' d w.heap.size ((2 ^ (k + 1) : Nat) : Int) r (s % (q : Int)) ∧ Below w1.heap.size w1 w') :=
    fun w1 h => dnew_ok q w.heap.size (k + 1) s w1 hpr h3 h4 h hk hd hs1 hs2 hs
  have hle := two_pow_le hk
  have h2k : 2 ^ (k + 1) = 2 * 2 ^ k := by rw [Nat.pow_succ]; omega
  have hpos : 0 < 2 ^ k := Nat.two_pow_pos k
  have HRB : Hid (∀ r : Nat, RootIs q ((2 ^ (k + 1) : Nat) : Int) r → Dom.Ord q (r : Int) (2 ^ (k + 1)) ∧ r < q) := fun r h => root_ord2 hpr h3 hd h
  obtain ⟨t1, t2⟩ := emod_bounds s q h3
  have HSD : Hid (¬ (q : Int) ∣ s % (q : Int)) := not_dvd_of_emod hs
  have HFIN : Hid (∀ (r d h : Nat) (W : World), Dom.Ord q (r : Int) (2 ^ (k + 1)) → r < q → W.cell? ⟨w.heap.size, 0, none⟩ = some (.int .i64 q) → DomAt W d w.heap.size ((2 * 2 ^ k : Nat) : Int) r (s % (q : Int)) → DomAt W h w.heap.size ((2 ^ k : Nat) : Int) ((r : Int) * (r : Int) % (q : Int)) (s % (q : Int) * (s % (q : Int)) % (q : Int)) → Dh W q w.heap.size d h (2 ^ k) r (s % (q : Int))) := fun r d h W ho hr hc hda hha => by
    rw [h2k] at ho
    obtain ⟨x1, x2⟩ := emod_bounds ((r : Int) * (r : Int)) q h3
    obtain ⟨y1, y2⟩ := emod_bounds (s % (q : Int) * (s % (q : Int))) q h3
    have hC : Fol.Cir q (2 * 2 ^ k) (r : Int) (s % (q : Int)) := ⟨hpr, h3, ho, HSD.out⟩
    exact ⟨⟨hpr, h3, h4, hc, hda, ⟨k + 1, hk, by rw [h2k]⟩, by omega, by omega, ho, t1, t2, HSD.out⟩, ⟨hpr, h3, h4, hc, hha, ⟨k, by omega, rfl⟩, x1, x2, hC.half.ord, y1, y2, hC.half.sd⟩⟩
  have HHF : Hid (∀ (r d : Nat) (W : World), r < q → W.cell? ⟨w.heap.size, 0, none⟩ = some (.int .i64 q) → DomAt W d w.heap.size ((2 * 2 ^ k : Nat) : Int) r (s % (q : Int)) → Calls Try.prog 23 #[.pointer (some ⟨d, 0, none⟩)] W fun e w' => ∃ d' : Nat, e = .returned (.tuple #[.pointer (some ⟨d', 0, none⟩), .nilIface]) ∧ W.heap.size ≤ d' ∧ DomAt w' d' w.heap.size ((2 ^ k : Nat) : Int) ((r : Int) * (r : Int) % (q : Int)) (s % (q : Int) * (s % (q : Int)) % (q : Int)) ∧ Below W.heap.size W w') := fun r d W hr hc hda =>
    half_any q w.heap.size d (2 ^ k) (r : Int) (s % (q : Int)) W h3 h4 hc hda hpos (by omega) (by omega) (by omega) t1 t2
  rw [← h2k] at HHF HFIN
  clear hpr hd hs h2k hle hpos HSD
  generalize ((2 ^ (k + 1) : Nat) : Int) = n at *
  go_enter Try.func7, Try.ntmps7
  go_wp2_with fail
  refine HN.out.mono ?_
  rintro e w1 ⟨rfl, hc1, hb1, hlt1⟩
  have HC1 := hid hc1
  have HB1 := hid hb1
  clear hc1 hb1
  go_wp2_with fail
  refine (HD.out w1 HC1.out).mono ?_
  rintro e w2 ⟨d, r, rfl, hld, hr, hda, hb2⟩
  have HRR := hid hr
  have HC2 := hid ((hb2.cell (p := ⟨w.heap.size, 0, none⟩) hlt1).trans HC1.out)
  have HDA := hid hda
  have HB2 : Hid (Below w.heap.size w w2) := HB1.out.trans (hb2.mono HB1.out.size)
  have HRO := hid (HRB.out r hr)
  have HH2 := hid (HHF.out r d w2 HRO.out.2 HC2.out HDA.out)
  clear hr hda hb2 HN HD
  go_wp2_with fail
  refine HH2.out.mono ?_
  rintro e w3 ⟨h, rfl, hlh, hha, hb3⟩
  have HE : Hid (Dh w3 q w.heap.size d h (2 ^ k) r (s % (q : Int)) ∧ Below w.heap.size w w3) := ⟨HFIN.out r d h w3 HRO.out.1 HRO.out.2 ((hb3.cell (p := ⟨w.heap.size, 0, none⟩) (heap_lt HC2.out)).trans HC2.out) (HDA.out.below hb3 HDA.out.lt) hha, HB2.out.trans (hb3.mono HB2.out.size)⟩
  clear hha hb3 HH2
  go_wp2_with fail
  go_ret3
  exact ⟨w.heap.size, d, h, r, rfl, HRR.out, HE.out.1, HE.out.2⟩

set_option maxRecDepth 100000 in
set_option maxHeartbeats 1000000 in
theorem plain5_no (p n s : Int) (w : World) (hno : ¬ Good5 p n s) (hp1 : -9223372036854775808 ≤ p) (hp2 : p ≤ 9223372036854775807) (hn1 : -9223372036854775808 ≤ n) (hn2 : n ≤ 9223372036854775807) (hs1 : -9223372036854775808 ≤ s) (hs2 : s ≤ 9223372036854775807) :
    Calls Try.prog 7 #[.int .i64 p, .int .i64 n, .int .i64 s] w fun e w' => e = .returned (.tuple #[.pointer none, .pointer none, .pointer none]) ∧ Below w.heap.size w w' := by
  by_cases hok : okPrime p
  · obtain ⟨q, rfl⟩ := Int.eq_ofNat_of_zero_le (show 0 ≤ p by have := hok.1; omega)
    obtain ⟨hq3, hq4, hqp⟩ := hok
    rw [Int.toNat_natCast] at hqp
    have h3 : 3 ≤ q := by omega
    have h4 : q ≤ 2147483647 := by omega
    have HN := hid (new_yes q w h3 h4 hqp)
    by_cases hgd : Good (q : Int) n s
    · obtain ⟨q', k, e1, rfl, hg⟩ := hgd
      obtain rfl : q' = q := by omega
      obtain rfl : k = 0 := by
        rcases Nat.eq_zero_or_pos k with g | g
        · exact g
        · exact absurd ⟨q', k - 1, rfl, by rw [Nat.sub_add_cancel g], by rw [Nat.sub_add_cancel g]; exact hg⟩ hno
      have HD : Hid (∀ w1 : World, w1.cell? ⟨w.heap.size, 0, none⟩ = some (.int .i64 q') → Calls Try.prog 22 #[.pointer (some ⟨w.heap.size, 0, none⟩), .int .i64 ((2 ^ 0 : Nat) : Int), .int .i64 s] w1 fun e w' =>
          ∃ (d r : Nat), e = .returned (.tuple #[.pointer (some ⟨d, 0, none⟩), .nilIface]) ∧ w1.heap.size ≤ d ∧ RootIs q' ((2 ^ 0 : Nat) : Int) r ∧ DomAt w' d w.heap.size ((2 ^ 0 : Nat) : Int) r (s % (q' : Int)) ∧ Below w1.heap.size w1 w') :=
        fun w1 h => dnew_ok q' w.heap.size 0 s w1 hqp h3 h4 h hg.hk hg.hd hs1 hs2 hg.hs
      rw [show ((2 ^ 0 : Nat) : Int) = 1 from rfl] at HD ⊢
      clear hno hqp hg
      go_enter Try.func7, Try.ntmps7
      go_wp2_with fail
      refine HN.out.mono ?_
      rintro e w1 ⟨rfl, hc1, hb1, hlt1⟩
      have HC1 := hid hc1
      have HB1 := hid hb1
      clear hc1 hb1
      go_wp2_with fail
      refine (HD.out w1 HC1.out).mono ?_
      rintro e w2 ⟨d, r, rfl, hld, hr, hda, hb2⟩
      have HB2 : Hid (Below w.heap.size w w2) := HB1.out.trans (hb2.mono HB1.out.size)
      have HH2 := hid (half_one w.heap.size d r (s % (q' : Int)) w2 hda)
      clear hr hda hb2
      go_wp2_with fail
      refine HH2.out.mono ?_
      rintro e w3 ⟨rfl, rfl⟩
      go_wp2_with fail
      go_ret3
      exact ⟨rfl, HB2.out⟩
    · have HD : Hid (∀ w1 : World, w1.cell? ⟨w.heap.size, 0, none⟩ = some (.int .i64 q) → Calls Try.prog 22 #[.pointer (some ⟨w.heap.size, 0, none⟩), .int .i64 n, .int .i64 s] w1 fun e w' => ∃ c : Int, e = .returned (.tuple #[.pointer none, .iface 55 (.int .i64 c)]) ∧ w' = w1) := fun w1 h => by
        by_cases hsz : SizeOk q n
        · obtain ⟨k, hk, rfl, hd⟩ := hsz
          by_cases hs : s % (q : Int) = 0
          · exact (dnew_range q w.heap.size k s w1 h3 h4 h hk hd hs1 hs2 hs).mono fun e w' ⟨h1, h2⟩ => ⟨3, h1, h2⟩
          · exact absurd ⟨q, k, rfl, rfl, hqp, h3, h4, hk, hd, hs⟩ hgd
        · exact (dnew_size q w.heap.size n s w1 h3 h4 h hsz hn1 hn2).mono fun e w' ⟨h1, h2⟩ => ⟨2, h1, h2⟩
      clear hno hqp hgd
      go_enter Try.func7, Try.ntmps7
      go_wp2_with fail
      refine HN.out.mono ?_
      rintro e w1 ⟨rfl, hc1, hb1, hlt1⟩
      have HC1 := hid hc1
      have HB1 := hid hb1
      clear hc1 hb1
      go_wp2_with fail
      refine (HD.out w1 HC1.out).mono ?_
      rintro e w2 ⟨c, rfl, rfl⟩
      go_wp2_with fail
      go_ret3
      exact ⟨rfl, HB1.out⟩
  · have HN := hid (new_no p w hok hp1 hp2)
    clear hno hok
    go_enter Try.func7, Try.ntmps7
    go_wp2_with fail
    refine HN.out.mono ?_
    rintro e w1 ⟨rfl, rfl⟩
    go_wp2_with fail
    go_ret3
    exact ⟨rfl, Below.refl _ _⟩

end Go.Proofs.Ytbbjbhiihfnkmah
