/- The law DomainValues answers true: what any polynomial is at all points of any domain. What lies still while a law on codewords goes on: the domain on both sides. attestlaw10.things: a sponge and a domain. Package pledge: powers, Mix. -/
import Derived.Test.YtpgnabmkfkcogaaGreatDoorDoms
import Derived.Test.YtpgnabmkfkcogaaGreatDoorPls
import Derived.Test.YtpgnabmkfkcogaaGreatDoorGxAG
import Derived.Test.YtpgnabmkfkcogaaGreatDoorGxAT
import Derived.Test.YtpgnabmkfkcogaaGreatDoorGxAA
namespace Go.Proofs.YtpgnabmkfkcogaaGreatDoor
open Go.RowKit

end Go.Proofs.YtpgnabmkfkcogaaGreatDoor

namespace Go.Proofs.YtpgnabmkfkcogaaGreatDoor
open Go.RowKit

/-- the domain, the reference's, and what was there ahead -/
structure Sit (w0 w : World) (q b d N g : Nat) (r t : Int) : Prop where
  dom : DO w q b d N r t
  quad : w.rowIs g 39 4 (quad (.int .i64 q) (.int .i64 N) (.int .i64 t) (.int .i64 r))
  below : Below w0.heap.size w0 w
  laid : Laid w

theorem Sit.step {w0 w w' : World} {q b d N g : Nat} {r t : Int} (h : Sit w0 w q b d N g r t) (e : Below w.heap.size w w') : Sit w0 w' q b d N g r t :=
  ⟨h.dom.step e, h.quad.of_block (e.block g h.quad.lt), h.below.trans (e.mono h.below.size), h.laid.below e⟩

theorem Sit.cells {w0 w : World} {q b d N g : Nat} {r t : Int} (h : Sit w0 w q b d N g r t) : w.cell? ⟨g, 0, none⟩ = some (.int .i64 q) ∧ w.cell? ⟨g, 1, none⟩ = some (.int .i64 N) ∧ w.cell? ⟨g, 2, none⟩ = some (.int .i64 t) ∧ w.cell? ⟨g, 3, none⟩ = some (.int .i64 r) :=
  ⟨h.quad.cell (i := 0) (by omega), h.quad.cell (i := 1) (by omega), h.quad.cell (i := 2) (by omega), h.quad.cell (i := 3) (by omega)⟩

theorem DO.of {w : World} {q k b d r : Nat} {s : Int} (hg : GoodAt q k s) (hr : RootIs q ((2 ^ k : Nat) : Int) r) (hc : w.cell? ⟨b, 0, none⟩ = some (.int .i64 q)) (hd : DomAt w d b ((2 ^ k : Nat) : Int) r (s % (q : Int))) : DO w q b d (2 ^ k) r (s % (q : Int)) := by
  obtain ⟨h1, h2⟩ := root_ord2 hg.pr hg.h3 hg.hd hr
  obtain ⟨t0, t1⟩ := emod_bounds s q hg.h3
  exact ⟨hg.pr, hg.h3, hg.h4, hc, hd, ⟨k, hg.hk, rfl⟩, by omega, by omega, h1, t0, t1, not_dvd_of_emod hg.hs⟩

end Go.Proofs.YtpgnabmkfkcogaaGreatDoor

namespace Go.Proofs.YtpgnabmkfkcogaaGreatDoor
open Go.RowKit

/-- a field with a sponge, and a domain -/
structure GoodT (q k : Nat) (s : Int) : Prop where
  at' : GoodAt q k s
  h23 : 23 ≤ q
def Good10 (p n s : Int) : Prop := ∃ q k : Nat, p = (q : Int) ∧ n = ((2 ^ k : Nat) : Int) ∧ GoodT q k s

set_option maxRecDepth 100000 in
set_option maxHeartbeats 1000000 in
theorem things_yes (q k : Nat) (s : Int) (w : World) (hg : GoodT q k s) (hs1 : -9223372036854775808 ≤ s) (hs2 : s ≤ 9223372036854775807) :
    Calls Tryz.prog 8 #[.int .i64 q, .int .i64 ((2 ^ k : Nat) : Int), .int .i64 s] w fun e w' =>
      ∃ (sp b n dd d r : Nat), e = .returned (.tuple #[.pointer (some ⟨sp, 0, none⟩), .pointer (some ⟨d, 0, none⟩), .bool true]) ∧ SpgOk q n dd ∧ SpgAt w' sp b q n dd ∧ RootIs q ((2 ^ k : Nat) : Int) r ∧ DO w' q b d (2 ^ k) r (s % (q : Int)) ∧ Below w.heap.size w w' := by
  have HG := hid hg
  obtain ⟨⟨hpr, h3, h4, hk, hd, hs⟩, h23⟩ := hg
  have hle := two_pow_le hk
  have HSP := hid (sponge_yes q w h23 h4 hpr)
  have HD : Hid (∀ (b : Nat) (w1 : World), w1.cell? ⟨b, 0, none⟩ = some (.int .i64 q) → Calls Tryz.prog 38 #[.pointer (some ⟨b, 0, none⟩), .int .i64 ((2 ^ k : Nat) : Int), .int .i64 s] w1 fun e w' =>
      ∃ (d r : Nat), e = .returned (.tuple #[.pointer (some ⟨d, 0, none⟩), .nilIface]) ∧ w1.heap.size ≤ d ∧ RootIs q ((2 ^ k : Nat) : Int) r ∧ DomAt w' d b ((2 ^ k : Nat) : Int) r (s % (q : Int)) ∧ Below w1.heap.size w1 w') :=
    fun b w1 h => dnew_ok q b k s w1 hpr h3 h4 h hk hd hs1 hs2 hs
  have HF : Hid (∀ w1 : World, Calls Tryz.prog 39 #[.int .i64 q, .int .i64 ((2 ^ k : Nat) : Int), .int .i64 s] w1 fun e w' => e = .returned (.int .i64 0) ∧ w' = w1) := fun w1 =>
    (fault_any q ((2 ^ k : Nat) : Int) s w1 h3 h4 (by omega) (by omega) hs1 hs2).mono fun e w' ⟨c, h1, h2, h5⟩ => by
      rcases h2 with ⟨h2, _⟩ | ⟨_, h2, _⟩ | ⟨_, _, rfl⟩
      · exact absurd ⟨k, hk, rfl, hd⟩ h2
      · exact absurd h2 hs
      · exact ⟨h1, h5⟩
  have HDO : Hid (∀ (w : World) (b d r : Nat), RootIs q ((2 ^ k : Nat) : Int) r → w.cell? ⟨b, 0, none⟩ = some (.int .i64 q) → DomAt w d b ((2 ^ k : Nat) : Int) r (s % (q : Int)) → DO w q b d (2 ^ k) r (s % (q : Int))) := fun w b d r h1 h2 h5 => DO.of HG.out.at' h1 h2 h5
  clear hpr hd hs hle HG
  generalize ((2 ^ k : Nat) : Int) = n at *
  generalize s % (q : Int) = t at *
  go_enter Tryz.func8, Tryz.ntmps8
  go_wp2_with fail
  refine HSP.out.mono ?_
  rintro e w1 ⟨sp, b, N, dd, rfl, hok, hsp, hb1⟩
  have HOK := hid hok
  have HS1 := hid hsp
  have HB1 := hid hb1
  clear hok hsp hb1 HSP
  go_wp2_with fail
  refine (sfield_any q N dd b sp w1 HS1.out).mono ?_
  rintro e w2 ⟨rfl, hw2⟩
  have hw2' := hw2.symm
  subst hw2'
  clear hw2
  go_wp2_with fail
  refine (HD.out b w1 HS1.out.p).mono ?_
  rintro e w3 ⟨d, r, rfl, hld, hr, hda, hb3⟩
  have HRR := hid hr
  have HS3 : Hid (SpgAt w3 sp b q N dd) := HS1.out.keep hb3
  have HDO3 := hid (HDO.out w3 b d r hr HS3.out.p hda)
  have HB3 : Hid (Below w.heap.size w w3) := HB1.out.trans (hb3.mono HB1.out.size)
  clear hr hda hb3 hld HD
  go_wp2_with fail
  refine (HF.out _).mono ?_
  rintro e w4 ⟨rfl, hw4⟩
  have hw4' := hw4.symm
  subst hw4'
  clear hw4 HF
  go_wp2_with fail
  refine (error_nil 0 _).mono ?_
  rintro e w4 ⟨rfl, hw4⟩
  have hw4' := hw4.symm
  subst hw4'
  clear hw4
  go_wp2_with fail
  go_ret3
  exact ⟨sp, b, N, dd, d, r, rfl, HOK.out, HS3.out, HRR.out, HDO3.out, HB3.out⟩

set_option maxRecDepth 100000 in
set_option maxHeartbeats 1000000 in
theorem things_no (p n s : Int) (w : World) (hL : Laid w) (hno : ¬ Good10 p n s) (hp1 : -9223372036854775808 ≤ p) (hp2 : p ≤ 9223372036854775807) (hn1 : -9223372036854775808 ≤ n) (hn2 : n ≤ 9223372036854775807) (hs1 : -9223372036854775808 ≤ s) (hs2 : s ≤ 9223372036854775807) :
    Calls Tryz.prog 8 #[.int .i64 p, .int .i64 n, .int .i64 s] w fun e w' => e = .returned (.tuple #[.pointer none, .pointer none, .bool true]) ∧ Below w.heap.size w w' := by
  have HL := hid hL
  by_cases hok : GoodS p
  · obtain ⟨q, rfl⟩ := Int.eq_ofNat_of_zero_le (show 0 ≤ p by have := hok.2; omega)
    obtain ⟨⟨hq3, hq4, hqp⟩, h23⟩ := hok
    rw [Int.toNat_natCast] at hqp
    have h3 : 3 ≤ q := by omega
    have h4 : q ≤ 2147483647 := by omega
    have HSP := hid (sponge_yes q w (by omega) h4 hqp)
    obtain ⟨c, hc, hcn, HD⟩ : ∃ c : Int, (c = 2 ∨ c = 3) ∧ FaultIs q n s c ∧ Hid (∀ (b : Nat) (w1 : World), w1.cell? ⟨b, 0, none⟩ = some (.int .i64 q) → Calls Tryz.prog 38 #[.pointer (some ⟨b, 0, none⟩), .int .i64 n, .int .i64 s] w1 fun e w' => e = .returned (.tuple #[.pointer none, .iface 101 (.int .i64 c)]) ∧ w' = w1) := by
      by_cases hsz : SizeOk q n
      · have hsz2 := hsz
        obtain ⟨k, hk, rfl, hd⟩ := hsz
        by_cases hs : s % (q : Int) = 0
        · exact ⟨3, Or.inr rfl, Or.inr (Or.inl ⟨hsz2, hs, rfl⟩), fun b w1 h => dnew_range q b k s w1 h3 h4 h hk hd hs1 hs2 hs⟩
        · exact absurd ⟨q, k, rfl, rfl, ⟨hqp, h3, h4, hk, hd, hs⟩, by omega⟩ hno
      · exact ⟨2, Or.inl rfl, Or.inl ⟨hsz, rfl⟩, fun b w1 h => dnew_size q b n s w1 h3 h4 h hsz hn1 hn2⟩
    have HF : Hid (∀ w1 : World, Calls Tryz.prog 39 #[.int .i64 q, .int .i64 n, .int .i64 s] w1 fun e w' => e = .returned (.int .i64 c) ∧ w' = w1) := fun w1 =>
      (fault_any q n s w1 h3 h4 hn1 hn2 hs1 hs2).mono fun e w' ⟨c', h1, h2, h5⟩ => by
        obtain rfl : c' = c := by
          rcases h2 with ⟨a1, a2⟩ | ⟨a1, a2, a3⟩ | ⟨a1, a2, a3⟩ <;> rcases hcn with ⟨b1, b2⟩ | ⟨b1, b2, b3⟩ | ⟨b1, b2, b3⟩ <;> first | omega | exact absurd b1 a1 | exact absurd a1 b1 | exact absurd b2 a2 | exact absurd a2 b2
        exact ⟨h1, h5⟩
    have hc0 : (c != 0) = true := by rw [bne_iff_ne]; omega
    have hcc : (c == c) = true := by simp
    clear hno hqp hc hcn hL
    go_enter Tryz.func8, Tryz.ntmps8
    go_wp2_with fail
    refine HSP.out.mono ?_
    rintro e w1 ⟨sp, b, N, dd, rfl, _, hsp, hb1⟩
    have HS1 := hid hsp
    have HB1 := hid hb1
    clear hsp hb1 HSP
    go_wp2_with fail
    refine (sfield_any q N dd b sp w1 HS1.out).mono ?_
    rintro e w2 ⟨rfl, hw2⟩
    have hw2' := hw2.symm
    subst hw2'
    clear hw2
    go_wp2_with fail
    refine (HD.out b w1 HS1.out.p).mono ?_
    rintro e w2 ⟨rfl, hw2⟩
    have hw2' := hw2.symm
    subst hw2'
    clear hw2
    go_wp2_with fail
    refine (HF.out _).mono ?_
    rintro e w2 ⟨rfl, hw2⟩
    have hw2' := hw2.symm
    subst hw2'
    clear hw2
    have HL3 : Hid (Laid w1) := HL.out.below HB1.out
    go_wp2_with fail
    refine (error_hit c c w1 HL3.out).mono ?_
    rintro e w4 ⟨rfl, hb4⟩
    have HB4 : Hid (Below w.heap.size w w4) := HB1.out.trans (hb4.mono HB1.out.size)
    rw [hcc]
    clear hb4 HD HF HL HL3 hcc
    go_wp2_with fail
    go_ret3
    exact ⟨rfl, HB4.out⟩
  · have HN := hid (sponge_no p w hL hok hp1 hp2)
    clear hno hok hL
    go_enter Tryz.func8, Tryz.ntmps8
    go_wp2_with fail
    refine HN.out.mono ?_
    rintro e w4 ⟨rfl, hb4⟩
    have HB4 := hid hb4
    clear hb4
    go_wp2_with fail
    go_ret3
    exact ⟨rfl, HB4.out⟩

end Go.Proofs.YtpgnabmkfkcogaaGreatDoor

namespace Go.Proofs.YtpgnabmkfkcogaaGreatDoor
open Go.RowKit

set_option maxRecDepth 100000 in
theorem powers_any (b : Nat) (r : Int) (w : World) :
    Calls Tryz.prog 42 #[.pointer (some ⟨b, 0, none⟩), .int .i64 r] w fun e w' => ∃ B0 B1, e = .returned (.func (.func 101) #[] #[.pointer (some ⟨B0, 0, none⟩), .pointer (some ⟨B1, 0, none⟩)]) ∧ B0 < w'.heap.size ∧ B1 < w'.heap.size ∧ w'.cell? ⟨B0, 0, none⟩ = some (.pointer (some ⟨b, 0, none⟩)) ∧ w'.cell? ⟨B1, 0, none⟩ = some (.int .i64 r) ∧ Below w.heap.size w w' ∧ w.heap.size ≤ B0 ∧ w.heap.size ≤ B1 := by
  obtain ⟨W1, hW1⟩ : ∃ W1, W1 = w.alloc (.cells #[.pointer (some ⟨b, 0, none⟩)] 28) := ⟨_, rfl⟩
  obtain ⟨W2, hW2⟩ : ∃ W2, W2 = W1.alloc (.cells #[.int .i64 r] 3) := ⟨_, rfl⟩
  have hs1 : W1.heap[w.heap.size]? = some (.cells #[.pointer (some ⟨b, 0, none⟩)] 28 (0, 0)) := by rw [hW1]; exact heap_alloc_new w _
  have hs2 : W2.heap[W1.heap.size]? = some (.cells #[.int .i64 r] 3 (0, 0)) := by rw [hW2]; exact heap_alloc_new W1 _
  have hb1 : Below w.heap.size w W1 := by rw [hW1]; exact (Below.refl _ _).alloc (Nat.le_refl _) _
  have hb2 : Below W1.heap.size W1 W2 := by rw [hW2]; exact (Below.refl _ _).alloc (Nat.le_refl _) _
  have hz1 : W1.heap.size = w.heap.size + 1 := by rw [hW1]; simp
  have hz2 : W2.heap.size = w.heap.size + 2 := by rw [hW2]; simp [hz1]
  have HE : Hid (w.heap.size < W2.heap.size ∧ W1.heap.size < W2.heap.size ∧ W2.cell? ⟨w.heap.size, 0, none⟩ = some (.pointer (some ⟨b, 0, none⟩)) ∧ W2.cell? ⟨W1.heap.size, 0, none⟩ = some (.int .i64 r) ∧ Below w.heap.size w W2 ∧ w.heap.size ≤ w.heap.size ∧ w.heap.size ≤ W1.heap.size) :=
    ⟨by omega, by omega, (hb2.cell (p := ⟨w.heap.size, 0, none⟩) (by show w.heap.size < W1.heap.size; omega)).trans (by simp [World.cell?, hs1]), by simp [World.cell?, hs2], hb1.trans (hb2.mono (by omega)), Nat.le_refl _, by omega⟩
  have HZ := hid hz1
  clear hs1 hs2 hb1 hb2 hz1 hz2
  go_enter Tryz.func42, Tryz.ntmps42
  go_wp2_with fail
  go_ret
  refine ⟨_, _, rfl, ?_⟩
  rw [hW2, hW1] at HE
  have := HE.out
  rw [← hW1, HZ.out] at this
  rw [hW1] at this
  exact this

set_option maxRecDepth 100000 in
theorem powq_any (p b B0 B1 cap : Nat) (r : Int) (a : Option Addr) (zs : List Int) (w : World) (h3 : 3 ≤ p) (hm : p ≤ 2147483647) (hp : w.cell? ⟨b, 0, none⟩ = some (.int .i64 p)) (h0 : w.cell? ⟨B0, 0, none⟩ = some (.pointer (some ⟨b, 0, none⟩))) (h1 : w.cell? ⟨B1, 0, none⟩ = some (.int .i64 r))
    (hn : zs.length ≤ 281474976710656) (hfit : Fits zs) (hr1 : -9223372036854775808 ≤ r) (hr2 : r ≤ 9223372036854775807) (hrow : RowB w.heap.size w a zs) :
    Calls Tryz.prog 101 #[.slice a zs.length cap, .pointer (some ⟨B0, 0, none⟩), .pointer (some ⟨B1, 0, none⟩)] w fun e w' => e = .returned (.int .i64 (evz p zs r)) ∧ Below w.heap.size w w' := by
  have HE := hid (eval_any p b cap (· < w.heap.size) a zs r w h3 hm hp hn hfit hr1 hr2 (hrow.p (fun _ h => h)))
  generalize evz p zs r = E at *
  generalize zs.length = n at *
  clear hfit hrow
  go_enter Tryz.func101, Tryz.ntmps101
  go_wp2_with fail
  refine HE.out.mono ?_
  rintro e w1 ⟨rfl, n1, rfl⟩
  go_wp2_with fail
  go_ret
  exact ⟨rfl, below_drewN (Below.refl _ _) n1⟩

/-- rows that can be mixed -/
def MixOk (rows : List (List Int)) : Prop := 1 ≤ rows.length ∧ wiB (rat rows 0).length rows = true
/-- what rows are mixed to -/
def mixz (p : Nat) (rows : List (List Int)) (r : Int) : List Int := ls (fun j => evz p (pgc rows j) r) (rat rows 0).length
theorem mixz_len (p : Nat) (rows : List (List Int)) (r : Int) : (mixz p rows r).length = (rat rows 0).length := ls_len _ _

set_option maxRecDepth 100000 in
set_option maxHeartbeats 1000000 in
theorem pmix_any (p b cap : Nat) (r : Int) (a : Option Addr) (rows : List (List Int)) (w : World) (h3 : 3 ≤ p) (hm : p ≤ 2147483647) (hp : w.cell? ⟨b, 0, none⟩ = some (.int .i64 p)) (hb : b < w.heap.size) (hr1 : -9223372036854775808 ≤ r) (hr2 : r ≤ 9223372036854775807)
    (hn : rows.length ≤ 17592186044000) (hF : FitsR rows) (hl : LstR w.heap.size w a cap rows) :
    Calls Tryz.prog 10 #[.pointer (some ⟨b, 0, none⟩), .slice a rows.length cap, .int .i64 r] w fun e w' => Below w.heap.size w w' ∧
      (MixOk rows → ∃ g, e = .returned (.tuple #[.slice (some ⟨g, 0, none⟩) (rat rows 0).length (rat rows 0).length, .nilIface]) ∧ Lst w'.heap.size w' (some ⟨g, 0, none⟩) (rat rows 0).length (mixz p rows r)) ∧
      (¬ MixOk rows → e = .returned (.tuple #[.slice none 0 0, .iface 101 (.int .i64 2)])) := by
  by_cases h0 : rows.length = 0
  · have HN : Hid (¬ MixOk rows) := fun h => by have := h.1; omega
    have hq : (rows.length : Int) = 0 := by omega
    rw [h0]
    clear hl hF h0 hq
    go_enter Tryz.func10, Tryz.ntmps10
    go_wp2_with fail
    go_ret2
    exact ⟨Below.refl _ _, fun h => absurd h HN.out, fun _ => rfl⟩
  · obtain ⟨b0, o0, a0, c0, rfl, hb0, hc0, hl0⟩ := hl.row 0 (by omega)
    have hc0' : w.cell? ⟨b0, o0, none⟩ = some (.slice a0 (rat rows 0).length c0) := by simpa using hc0
    have HW := hid (areWide_any cap (rat rows 0).length (some ⟨b0, o0, none⟩) rows w (by omega) hl)
    by_cases hwi : wiB (rat rows 0).length rows = true
    · have HOK : Hid (MixOk rows) := ⟨by omega, hwi⟩
      have hl0n := (hF 0 (by omega)).2
      have HAC : Hid (∀ (W : World) (B0 B1 : Nat), Below w.heap.size w W → B0 < W.heap.size → B1 < W.heap.size → W.cell? ⟨B0, 0, none⟩ = some (.pointer (some ⟨b, 0, none⟩)) → W.cell? ⟨B1, 0, none⟩ = some (.int .i64 r) →
          Calls Tryz.prog 41 #[.slice (some ⟨b0, o0, none⟩) rows.length cap, .func (.func 101) #[] #[.pointer (some ⟨B0, 0, none⟩), .pointer (some ⟨B1, 0, none⟩)]] W fun e w' => e = .returned (.slice (some ⟨W.heap.size, 0, none⟩) (rat rows 0).length (rat rows 0).length) ∧ ArrI w' W.heap.size 3 (rat rows 0).length (fun j => evz p (pgc rows j) r) ∧ Below W.heap.size W w') :=
        fun W B0 B1 hW q0 q1 k0 k1 => pacross_any 101 cap (rat rows 0).length #[.pointer (some ⟨B0, 0, none⟩), .pointer (some ⟨B1, 0, none⟩)] (fun l => evz p l r) _ rows W (by omega) hn hl0n (fun k hk => wiB_at hwi hk) ((hl.below hW).mono hW.size)
          (enters_of Tryz.func101 (by kernel_rfl) (by kernel_rfl))
          (fun W2 g j hW2 hj hA => by
            have hq := powq_any p b B0 B1 rows.length r (some ⟨g, 0, none⟩) (pgc rows j) W2 h3 hm ((hW2.cell (p := ⟨b, 0, none⟩) (by have := hW.size; show b < _; omega)).trans ((hW.cell (p := ⟨b, 0, none⟩) hb).trans hp)) ((hW2.cell (p := ⟨B0, 0, none⟩) q0).trans k0) ((hW2.cell (p := ⟨B1, 0, none⟩) q1).trans k1)
              (by rw [pgc_len]; omega) (pgc_fits hF j) hr1 hr2 (fun k hk => ⟨g, 0, rfl, hA.lt, by rw [Nat.zero_add]; exact hA.cell (by rw [pgc_len] at hk; exact hk)⟩)
            rw [pgc_len] at hq
            exact hq)
      have HMZ : Hid (mixz p rows r = ls (fun j => evz p (pgc rows j) r) (rat rows 0).length) := rfl
      rw [hwi] at HW
      generalize (rat rows 0).length = m at *
      obtain ⟨n, hnn⟩ : ∃ n, n = rows.length := ⟨_, rfl⟩
      simp only [← hnn] at HAC HW h0 hn ⊢
      have hz : ¬ (n : Int) = 0 := by omega
      have hzl : (0 : Int) < (n : Int) := by omega
      clear hl hF hwi hl0 hc0 hnn
      go_enter Tryz.func10, Tryz.ntmps10
      go_wp2_with fail
      refine HW.out.mono ?_
      rintro e w1 ⟨rfl, hb1⟩
      have HB1 := hid hb1
      clear HW hb1
      go_wp2_with fail
      refine (powers_any b r w1).mono ?_
      rintro e w2 ⟨B0, B1, rfl, q0, q1, k0, k1, hb2, _, _⟩
      have HB2 : Hid (Below w.heap.size w w2) := HB1.out.trans (hb2.mono HB1.out.size)
      have HA := hid (HAC.out w2 B0 B1 HB2.out q0 q1 k0 k1)
      clear HAC q0 q1 k0 k1 hb2
      go_wp2_with fail
      refine HA.out.mono ?_
      rintro e w3 ⟨rfl, har, hb3⟩
      have HE : Hid (Lst w3.heap.size w3 (some ⟨w2.heap.size, 0, none⟩) m (mixz p rows r) ∧ Below w.heap.size w w3) :=
        ⟨by rw [HMZ.out]; exact ⟨fun k hk => ⟨_, 0, rfl, har.lt, by rw [ls_len] at hk; rw [ls_at _ _ _ hk, Nat.zero_add]; exact har.cell hk⟩, by rw [ls_len]; exact Nat.le_refl _, fun e => by cases e⟩, HB2.out.trans (hb3.mono HB2.out.size)⟩
      clear har hb3 HA
      go_wp2_with fail
      go_ret2
      exact ⟨HE.out.2, fun _ => ⟨_, rfl, HE.out.1⟩, fun h => absurd HOK.out h⟩
    · have HNO : Hid (¬ MixOk rows) := fun h => hwi h.2
      rw [show wiB (rat rows 0).length rows = false from by simpa using hwi] at HW
      generalize (rat rows 0).length = m at *
      obtain ⟨n, hnn⟩ : ∃ n, n = rows.length := ⟨_, rfl⟩
      simp only [← hnn] at HW h0 hn ⊢
      have hz : ¬ (n : Int) = 0 := by omega
      have hzl : (0 : Int) < (n : Int) := by omega
      clear hl hF hwi hl0 hc0 hnn
      go_enter Tryz.func10, Tryz.ntmps10
      go_wp2_with fail
      refine HW.out.mono ?_
      rintro e w1 ⟨rfl, hb1⟩
      have HB1 := hid hb1
      clear HW hb1
      go_wp2_with fail
      go_ret2
      exact ⟨HB1.out, fun h => absurd h HNO.out, fun _ => rfl⟩

end Go.Proofs.YtpgnabmkfkcogaaGreatDoor
