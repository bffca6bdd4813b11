/- attestlaw5's made: a domain on both sides and a sponge, or none on both. -/
import Derived.Test.YtfppkjpgihnibaaGreatDoorDoms
import Derived.Test.YtfppkjpgihnibaaGreatDoorSpgT
namespace Go.Proofs.YtfppkjpgihnibaaGreatDoor
open Go.RowKit

theorem results_ttct {P : Program} {fn : Func} {t0 t p u : Tmp} {ty : TypeId} (h : fn.results = #[.tmp t0, .tmp t, .cell p ty, .tmp u]) (tmps : Array Value) (w : World) (g : Nat) (tt : TypeId) (cs : Array Value) (fr : Nat × Nat) (d : TypeDesc)
    (hp : tmps.getD p undef = .pointer (some ⟨g, 0, none⟩)) (hg : w.heap[g]? = some (.cells cs tt fr))
    (hu : P.underlying ty = some d) (hd : (match d with | .struct _ | .array _ _ => true | _ => false) = true) (hi : (P.info? ty).map (·.size) = some cs.size) :
    (results fn tmps).run P w = .ok (.tuple #[tmps.getD t0 undef, tmps.getD t undef, .agg cs, tmps.getD u undef]) w := by
  have hp' : tmps[p]?.getD undef = .pointer (some ⟨g, 0, none⟩) := by simpa using hp
  simp [results, h, hp', asAddr, run_loadVar_row w g tt ty cs fr d hg hu hd hi]

/-- a sponge, or none -/
def Spo5 (w : World) (q : Nat) (v : Value) : Prop := (q < 23 ∧ v = .pointer none) ∨ (23 ≤ q ∧ ∃ s b n d, v = .pointer (some ⟨s, 0, none⟩) ∧ SpgOk q n d ∧ SpgAt w s b q n d)
theorem Spo5.step {w w' : World} {q : Nat} {v : Value} (h : Spo5 w q v) (e : Below w.heap.size w w') : Spo5 w' q v := by
  rcases h with h | ⟨h, s, b, n, d, h1, h2, h3⟩
  · exact Or.inl h
  · exact Or.inr ⟨h, s, b, n, d, h1, h2, h3.keep e⟩
theorem Spo5.pair {w w' : World} {q g : Nat} {v : Value} (h : Spo5 w q v) (e : Pair g g w w') (hg : w.cell? ⟨g, 0, none⟩ = some (.int .i64 0)) : Spo5 w' q v := by
  rcases h with h | ⟨h, s, b, n, d, h1, h2, h3⟩
  · exact Or.inl h
  · have e1 : s ≠ g := fun x => by
      have := h3.f
      rw [x, hg] at this
      cases this
    have e2 : b ≠ g := fun x => by
      have := h3.p
      rw [x, hg] at this
      injection this with this
      injection this with _ this
      omega
    exact Or.inr ⟨h, s, b, n, d, h1, h2, h3.blocks (e.block s h3.lt e1 e1) (e.block b h3.ltb e2 e2)⟩
theorem spo_any (q : Nat) (w : World) (hL : Laid w) (h4 : q ≤ 2147483647) (hpr : Num.Prime q) :
    Calls Tryz.prog 31 #[.int .i64 q] w fun e w' => ∃ v, e = .returned (.tuple #[v, .bool true]) ∧ Spo5 w' q v ∧ Below w.heap.size w w' := by
  by_cases h : 23 ≤ q
  · exact (sponge_yes q w h h4 hpr).mono fun e w' ⟨s, b, n, d, h1, h2, h3, h5⟩ => ⟨_, h1, Or.inr ⟨h, s, b, n, d, rfl, h2, h3⟩, h5⟩
  · exact (sponge_no (q : Int) w hL (fun hh => h (by have := hh.2; omega)) (by omega) (by omega)).mono fun e w' ⟨h1, h2⟩ => ⟨_, h1, Or.inl ⟨by omega, rfl⟩, h2⟩

set_option maxRecDepth 100000 in
set_option maxHeartbeats 1000000 in
theorem made5_yes (q k : Nat) (s : Int) (w : World) (hL : Laid w) (hg : GoodAt q k s) (hs1 : -9223372036854775808 ≤ s) (hs2 : s ≤ 9223372036854775807) :
    Calls Tryz.prog 6 #[.int .i64 q, .int .i64 ((2 ^ k : Nat) : Int), .int .i64 s] w fun e w' =>
      ∃ (b d r : Nat) (v : Value), e = .returned (.tuple #[.pointer (some ⟨d, 0, none⟩), v, .agg #[.int .i64 q, .int .i64 ((2 ^ k : Nat) : Int), .int .i64 (s % (q : Int)), .int .i64 r], .bool true]) ∧ RootIs q ((2 ^ k : Nat) : Int) r ∧ w'.cell? ⟨b, 0, none⟩ = some (.int .i64 q) ∧ DomAt w' d b ((2 ^ k : Nat) : Int) r (s % (q : Int)) ∧ Spo5 w' q v ∧ Below w.heap.size w w' := by
  obtain ⟨hpr, h3, h4, hk, hd, hs⟩ := hg
  have hmx : Tryz.prog.follows .mixedOrders = true := by kernel_rfl
  have hle := two_pow_le hk
  have HN : Hid (∀ w1 : World, Calls Tryz.prog 19 #[.int .i64 q] w1 fun e w' => e = .returned (.tuple #[.pointer (some ⟨w1.heap.size, 0, none⟩), .bool true]) ∧ w'.cell? ⟨w1.heap.size, 0, none⟩ = some (.int .i64 q) ∧ Below w1.heap.size w1 w' ∧ w1.heap.size < w'.heap.size) := fun w1 => field_yes q w1 h3 h4 hpr
  have HD : Hid (∀ (b : Nat) (w1 : World), w1.cell? ⟨b, 0, none⟩ = some (.int .i64 q) → Calls Tryz.prog 29 #[.pointer (some ⟨b, 0, none⟩), .int .i64 ((2 ^ k : Nat) : Int), .int .i64 s] w1 fun e w' =>
      ∃ (d r : Nat), e = .returned (.tuple #[.pointer (some ⟨d, 0, none⟩), .nilIface]) ∧ w1.heap.size ≤ d ∧ RootIs q ((2 ^ k : Nat) : Int) r ∧ DomAt w' d b ((2 ^ k : Nat) : Int) r (s % (q : Int)) ∧ Below w1.heap.size w1 w') :=
    fun b w1 h => dnew_ok q b k s w1 hpr h3 h4 h hk hd hs1 hs2 hs
  have HF : Hid (∀ w1 : World, Calls Tryz.prog 30 #[.int .i64 q, .int .i64 ((2 ^ k : Nat) : Int), .int .i64 s] w1 fun e w' => e = .returned (.int .i64 0) ∧ w' = w1) := fun w1 =>
    (fault_any q ((2 ^ k : Nat) : Int) s w1 h3 h4 (by omega) (by omega) hs1 hs2).mono fun e w' ⟨c, h1, h2, h5⟩ => by
      rcases h2 with ⟨h2, _⟩ | ⟨_, h2, _⟩ | ⟨_, _, rfl⟩
      · exact absurd ⟨k, hk, rfl, hd⟩ h2
      · exact absurd h2 hs
      · exact ⟨h1, h5⟩
  have HR : Hid (∀ w1 : World, Calls Tryz.prog 32 #[.int .i64 q, .int .i64 ((2 ^ k : Nat) : Int), .int .i64 s] w1 fun e w' => ∃ r : Nat, e = .returned (.agg #[.int .i64 q, .int .i64 ((2 ^ k : Nat) : Int), .int .i64 (s % (q : Int)), .int .i64 r]) ∧ RootIs q ((2 ^ k : Nat) : Int) r ∧ Below w1.heap.size w1 w') :=
    fun w1 => rdnew_any q _ s w1 hpr h3 h4 (by omega) (by omega) hs1 hs2
  have HSP : Hid (∀ w1 : World, Laid w1 → Calls Tryz.prog 31 #[.int .i64 q] w1 fun e w' => ∃ v, e = .returned (.tuple #[v, .bool true]) ∧ Spo5 w' q v ∧ Below w1.heap.size w1 w') := fun w1 h => spo_any q w1 h h4 hpr
  have HL := hid hL
  clear hpr hd hs hle hL
  generalize ((2 ^ k : Nat) : Int) = n at *
  generalize s % (q : Int) = t at *
  go_enter Tryz.func6, Tryz.ntmps6
  go_wp2_with fail
  have HB0 : Hid (Below w.heap.size w (w.alloc (.cells #[.int .i64 0, .int .i64 0, .int .i64 0, .int .i64 0] 26))) := (Below.refl _ _).alloc (Nat.le_refl _) _
  have hs0x : w.heap.size < (w.alloc (.cells #[.int .i64 0, .int .i64 0, .int .i64 0, .int .i64 0] 26)).heap.size := by simp
  have HQ0 := hid (quad_new w 26 (.int .i64 0) (.int .i64 0) (.int .i64 0) (.int .i64 0))
  refine (HN.out _).mono ?_
  generalize w.alloc (.cells #[.int .i64 0, .int .i64 0, .int .i64 0, .int .i64 0] 26) = W0 at *
  rintro e w1 ⟨rfl, hc1, hb1, hlt1⟩
  have HC1 := hid hc1
  have HB1 := hid hb1
  have hsz1 := hb1.size
  clear hc1 hb1
  go_wp2_with fail
  refine (HD.out _ w1 HC1.out).mono ?_
  rintro e w2 ⟨d, r, rfl, hld, hr, hda, hb2⟩
  have HRR := hid hr
  have HC2 := hid ((hb2.cell (p := ⟨W0.heap.size, 0, none⟩) hlt1).trans HC1.out)
  have HDA := hid hda
  have HB2 : Hid (Below W0.heap.size W0 w2) := HB1.out.trans (hb2.mono hsz1)
  have hsz2 := hb2.size
  clear hr hda hb2
  go_wp2_with fail
  refine (HF.out _).mono ?_
  rintro e w3 ⟨rfl, rfl⟩
  go_wp2_with fail
  refine (error_nil 0 _).mono ?_
  rintro e w4 ⟨rfl, rfl⟩
  go_wp2_with fail
  refine (HSP.out _ (HL.out.below (HB0.out.trans (HB2.out.mono (by omega))))).mono ?_
  rintro e w4b ⟨v, rfl, hsp, hb4⟩
  have HC2 := hid ((hb4.cell (p := ⟨W0.heap.size, 0, none⟩) (by show W0.heap.size < w4.heap.size; omega)).trans HC2.out)
  have HDA := hid (HDA.out.below hb4 HDA.out.lt)
  have HB2 : Hid (Below W0.heap.size W0 w4b) := HB2.out.trans (hb4.mono (by omega))
  have hsz4 := hb4.size
  have HSV := hid hsp
  clear hsp hb4
  go_wp2_with fail
  refine (HR.out _).mono ?_
  rintro e w5 ⟨r2, rfl, hr2, hb5⟩
  obtain rfl : r2 = r := rootIs_unique hr2 HRR.out
  have HSV := hid (HSV.out.step hb5)
  have HB5 : Hid (Below W0.heap.size W0 w5) := HB2.out.trans (hb5.mono (by omega))
  have HQ5 := hid (HQ0.out.of_block (HB5.out.block _ hs0x))
  have hlt5 : w.heap.size < w5.heap.size := Nat.lt_of_lt_of_le hs0x HB5.out.size
  have z0 := HQ5.out.cell (i := 0) (by omega)
  have z1 := HQ5.out.cell (i := 1) (by omega)
  have z2 := HQ5.out.cell (i := 2) (by omega)
  have z3 := HQ5.out.cell (i := 3) (by omega)
  have y0 := HQ5.out.frozen 0
  have y1 := HQ5.out.frozen 1
  have y2 := HQ5.out.frozen 2
  have y3 := HQ5.out.frozen 3
  have HE : Hid (w5.cell? ⟨W0.heap.size, 0, none⟩ = some (.int .i64 q) ∧ DomAt w5 d W0.heap.size n r2 t) := ⟨(hb5.cell (p := ⟨W0.heap.size, 0, none⟩) (by show W0.heap.size < w4b.heap.size; omega)).trans HC2.out, HDA.out.below hb5 HDA.out.lt⟩
  have hdl5 := HE.out.2.lt
  have hbl5 := heap_lt HE.out.1
  clear hr2 hb5 HN HD HF HR
  go_wp2_with fail
  have HQ6 : Hid ((w5.alloc (.cells #[.int .i64 q, .int .i64 n, .int .i64 t, .int .i64 r2] 26)).drew.rowIs w.heap.size 26 4 (quad (.int .i64 0) (.int .i64 0) (.int .i64 0) (.int .i64 0))) := HQ5.out.alloc _
  have HB6 : Hid (Below w5.heap.size w5 (w5.alloc (.cells #[.int .i64 q, .int .i64 n, .int .i64 t, .int .i64 r2] 26)).drew) := ((Below.refl _ _).alloc (Nat.le_refl _) _).drew
  have HRES : Hid ((((((w5.setCell ⟨w.heap.size, 0, none⟩ (.int .i64 q)).setCell ⟨w.heap.size, 1, none⟩ (.int .i64 n)).setCell ⟨w.heap.size, 2, none⟩ (.int .i64 t)).setCell ⟨w.heap.size, 3, none⟩ (.int .i64 r2)).alloc (.cells #[.int .i64 q, .int .i64 n, .int .i64 t, .int .i64 r2] 26)).drew.heap[w.heap.size]? = some (.cells #[.int .i64 q, .int .i64 n, .int .i64 t, .int .i64 r2] 26 (0, 0))) :=
    quad_arr ((quad_set HQ5.out _ _ _ _).alloc _)
  have HPA : Hid (Pair w.heap.size w.heap.size w5 (((((w5.setCell ⟨w.heap.size, 0, none⟩ (.int .i64 q)).setCell ⟨w.heap.size, 1, none⟩ (.int .i64 n)).setCell ⟨w.heap.size, 2, none⟩ (.int .i64 t)).setCell ⟨w.heap.size, 3, none⟩ (.int .i64 r2)).alloc (.cells #[.int .i64 q, .int .i64 n, .int .i64 t, .int .i64 r2] 26)).drew) :=
    ((((((Pair.refl w.heap.size w.heap.size w5).setCell (p := ⟨w.heap.size, 0, none⟩) (.inl rfl) _).setCell (p := ⟨w.heap.size, 1, none⟩) (.inl rfl) _).setCell (p := ⟨w.heap.size, 2, none⟩) (.inl rfl) _).setCell (p := ⟨w.heap.size, 3, none⟩) (.inl rfl) _).alloc _).drew
  have HBE : Hid (Below w.heap.size w (((((w5.setCell ⟨w.heap.size, 0, none⟩ (.int .i64 q)).setCell ⟨w.heap.size, 1, none⟩ (.int .i64 n)).setCell ⟨w.heap.size, 2, none⟩ (.int .i64 t)).setCell ⟨w.heap.size, 3, none⟩ (.int .i64 r2)).alloc (.cells #[.int .i64 q, .int .i64 n, .int .i64 t, .int .i64 r2] 26)).drew) :=
    (HB0.out.trans (HB5.out.mono (by omega))).trans (HPA.out.below (by omega) (Nat.le_refl _) (Nat.le_refl _))
  have hne1 : d ≠ w.heap.size := by omega
  have hne2 : W0.heap.size ≠ w.heap.size := by omega
  go_region
  all_goals
    go_wp2_with fail
    (try simp only [Exit.inBlock, Exit.then])
    refine bodyPost_ret (results_ttct rfl _ _ w.heap.size 26 #[.int .i64 q, .int .i64 n, .int .i64 t, .int .i64 r2] (0, 0) _ rfl HRES.out Tryz.underlying26 rfl (by kernel_rfl)) rfl ?_
    exact ⟨W0.heap.size, d, r2, v, rfl, HRR.out, (HPA.out.cell (p := ⟨W0.heap.size, 0, none⟩) hbl5 hne2 hne2).trans HE.out.1, HE.out.2.pair HPA.out hdl5 hne1 hne1, HSV.out.pair HPA.out (HQ5.out.cell (i := 0) (by omega)), HBE.out⟩


set_option maxRecDepth 100000 in
set_option maxHeartbeats 1000000 in
theorem made5_no (p n s : Int) (w : World) (hL : Laid w) (hno : ¬ Good p n s) (hp1 : -9223372036854775808 ≤ p) (hp2 : p ≤ 9223372036854775807) (hn1 : -9223372036854775808 ≤ n) (hn2 : n ≤ 9223372036854775807) (hs1 : -9223372036854775808 ≤ s) (hs2 : s ≤ 9223372036854775807) :
    Calls Tryz.prog 6 #[.int .i64 p, .int .i64 n, .int .i64 s] w fun e w' => e = .returned (.tuple #[.pointer none, .pointer none, .agg #[.int .i64 0, .int .i64 0, .int .i64 0, .int .i64 0], .bool true]) ∧ Below w.heap.size w w' := by
  have HL := hid hL
  by_cases hok : okPrime p
  · obtain ⟨q, rfl⟩ := Int.eq_ofNat_of_zero_le (show 0 ≤ p by have := hok.1; omega)
    obtain ⟨hq3, hq4, hqp⟩ := hok
    rw [Int.toNat_natCast] at hqp
    have h3 : 3 ≤ q := by omega
    have h4 : q ≤ 2147483647 := by omega
    have HN : Hid (∀ w1 : World, Calls Tryz.prog 19 #[.int .i64 q] w1 fun e w' => e = .returned (.tuple #[.pointer (some ⟨w1.heap.size, 0, none⟩), .bool true]) ∧ w'.cell? ⟨w1.heap.size, 0, none⟩ = some (.int .i64 q) ∧ Below w1.heap.size w1 w' ∧ w1.heap.size < w'.heap.size) := fun w1 => field_yes q w1 h3 h4 hqp
    obtain ⟨c, hc, hcn, HD⟩ : ∃ c : Int, (c = 2 ∨ c = 3) ∧ FaultIs q n s c ∧ Hid (∀ (b : Nat) (w1 : World), w1.cell? ⟨b, 0, none⟩ = some (.int .i64 q) → Calls Tryz.prog 29 #[.pointer (some ⟨b, 0, none⟩), .int .i64 n, .int .i64 s] w1 fun e w' => e = .returned (.tuple #[.pointer none, .iface 86 (.int .i64 c)]) ∧ w' = w1) := by
      by_cases hsz : SizeOk q n
      · have hsz2 := hsz
        obtain ⟨k, hk, rfl, hd⟩ := hsz
        by_cases hs : s % (q : Int) = 0
        · exact ⟨3, Or.inr rfl, Or.inr (Or.inl ⟨hsz2, hs, rfl⟩), fun b w1 h => dnew_range q b k s w1 h3 h4 h hk hd hs1 hs2 hs⟩
        · exact absurd ⟨q, k, rfl, rfl, hqp, h3, h4, hk, hd, hs⟩ hno
      · exact ⟨2, Or.inl rfl, Or.inl ⟨hsz, rfl⟩, fun b w1 h => dnew_size q b n s w1 h3 h4 h hsz hn1 hn2⟩
    have HF : Hid (∀ w1 : World, Calls Tryz.prog 30 #[.int .i64 q, .int .i64 n, .int .i64 s] w1 fun e w' => e = .returned (.int .i64 c) ∧ w' = w1) := fun w1 =>
      (fault_any q n s w1 h3 h4 hn1 hn2 hs1 hs2).mono fun e w' ⟨c', h1, h2, h5⟩ => by
        obtain rfl : c' = c := by
          rcases h2 with ⟨a1, a2⟩ | ⟨a1, a2, a3⟩ | ⟨a1, a2, a3⟩ <;> rcases hcn with ⟨b1, b2⟩ | ⟨b1, b2, b3⟩ | ⟨b1, b2, b3⟩ <;> first | omega | exact absurd b1 a1 | exact absurd a1 b1 | exact absurd b2 a2 | exact absurd a2 b2
        exact ⟨h1, h5⟩
    have hc0 : (c != 0) = true := by rw [bne_iff_ne]; omega
    have hcc : (c == c) = true := by simp
    clear hno hqp hc hcn hL
    go_enter Tryz.func6, Tryz.ntmps6
    go_wp2_with fail
    have HB0 : Hid (Below w.heap.size w (w.alloc (.cells #[.int .i64 0, .int .i64 0, .int .i64 0, .int .i64 0] 26))) := (Below.refl _ _).alloc (Nat.le_refl _) _
    have hs0x : w.heap.size < (w.alloc (.cells #[.int .i64 0, .int .i64 0, .int .i64 0, .int .i64 0] 26)).heap.size := by simp
    have HQ0 := hid (quad_new w 26 (.int .i64 0) (.int .i64 0) (.int .i64 0) (.int .i64 0))
    refine (HN.out _).mono ?_
    generalize w.alloc (.cells #[.int .i64 0, .int .i64 0, .int .i64 0, .int .i64 0] 26) = W0 at *
    rintro e w1 ⟨rfl, hc1, hb1, hlt1⟩
    have HC1 := hid hc1
    have HB1 := hid hb1
    have hsz1 := hb1.size
    clear hc1 hb1
    go_wp2_with fail
    refine (HD.out _ w1 HC1.out).mono ?_
    rintro e w2 ⟨rfl, rfl⟩
    go_wp2_with fail
    refine (HF.out _).mono ?_
    rintro e w3 ⟨rfl, rfl⟩
    have HL3 : Hid (Laid w3) := HL.out.below (HB0.out.trans (HB1.out.mono (by omega)))
    go_wp2_with fail
    refine (error_hit c c w3 HL3.out).mono ?_
    rintro e w4 ⟨rfl, hb4⟩
    have HB4 : Hid (Below W0.heap.size W0 w4) := HB1.out.trans (hb4.mono hsz1)
    have HQ4 := hid (HQ0.out.of_block (HB4.out.block _ hs0x))
    have hlt4 : w.heap.size < w4.heap.size := Nat.lt_of_lt_of_le hs0x HB4.out.size
    have z0 := HQ4.out.cell (i := 0) (by omega)
    have z1 := HQ4.out.cell (i := 1) (by omega)
    have z2 := HQ4.out.cell (i := 2) (by omega)
    have z3 := HQ4.out.cell (i := 3) (by omega)
    have y0 := HQ4.out.frozen 0
    have y1 := HQ4.out.frozen 1
    have y2 := HQ4.out.frozen 2
    have y3 := HQ4.out.frozen 3
    rw [hcc]
    clear hb4 HN HD HF HL HL3 hcc
    have HRES : Hid (((((w4.setCell ⟨w.heap.size, 0, none⟩ (.int .i64 0)).setCell ⟨w.heap.size, 1, none⟩ (.int .i64 0)).setCell ⟨w.heap.size, 2, none⟩ (.int .i64 0)).setCell ⟨w.heap.size, 3, none⟩ (.int .i64 0)).heap[w.heap.size]? = some (.cells #[.int .i64 0, .int .i64 0, .int .i64 0, .int .i64 0] 26 (0, 0))) := quad_arr (quad_set HQ4.out _ _ _ _)
    have HBE : Hid (Below w.heap.size w ((((w4.setCell ⟨w.heap.size, 0, none⟩ (.int .i64 0)).setCell ⟨w.heap.size, 1, none⟩ (.int .i64 0)).setCell ⟨w.heap.size, 2, none⟩ (.int .i64 0)).setCell ⟨w.heap.size, 3, none⟩ (.int .i64 0))) :=
      ((((HB0.out.trans (HB4.out.mono (by omega))).setCell (p := ⟨w.heap.size, 0, none⟩) (Nat.le_refl _) _).setCell (p := ⟨w.heap.size, 1, none⟩) (Nat.le_refl _) _).setCell (p := ⟨w.heap.size, 2, none⟩) (Nat.le_refl _) _).setCell (p := ⟨w.heap.size, 3, none⟩) (Nat.le_refl _) _
    go_wp2_with fail
    (try simp only [Exit.inBlock, Exit.then])
    refine bodyPost_ret (results_ttct rfl _ _ w.heap.size 26 #[.int .i64 0, .int .i64 0, .int .i64 0, .int .i64 0] (0, 0) _ rfl HRES.out Tryz.underlying26 rfl (by kernel_rfl)) rfl ?_
    exact ⟨rfl, HBE.out⟩
  · have HN : Hid (∀ w1 : World, Laid w1 → Calls Tryz.prog 19 #[.int .i64 p] w1 fun e w' => e = .returned (.tuple #[.pointer none, .bool true]) ∧ Below w1.heap.size w1 w') := fun w1 h => field_no p w1 h hok hp1 hp2
    clear hno hok hL
    go_enter Tryz.func6, Tryz.ntmps6
    go_wp2_with fail
    have HB0 : Hid (Below w.heap.size w (w.alloc (.cells #[.int .i64 0, .int .i64 0, .int .i64 0, .int .i64 0] 26))) := (Below.refl _ _).alloc (Nat.le_refl _) _
    have hs0x : w.heap.size < (w.alloc (.cells #[.int .i64 0, .int .i64 0, .int .i64 0, .int .i64 0] 26)).heap.size := by simp
    have HQ0 := hid (quad_new w 26 (.int .i64 0) (.int .i64 0) (.int .i64 0) (.int .i64 0))
    refine (HN.out _ (HL.out.below HB0.out)).mono ?_
    generalize w.alloc (.cells #[.int .i64 0, .int .i64 0, .int .i64 0, .int .i64 0] 26) = W0 at *
    rintro e w4 ⟨rfl, hb4⟩
    have HB4 := hid hb4
    have HQ4 := hid (HQ0.out.of_block (HB4.out.block _ hs0x))
    have hlt4 : w.heap.size < w4.heap.size := Nat.lt_of_lt_of_le hs0x HB4.out.size
    have z0 := HQ4.out.cell (i := 0) (by omega)
    have z1 := HQ4.out.cell (i := 1) (by omega)
    have z2 := HQ4.out.cell (i := 2) (by omega)
    have z3 := HQ4.out.cell (i := 3) (by omega)
    have y0 := HQ4.out.frozen 0
    have y1 := HQ4.out.frozen 1
    have y2 := HQ4.out.frozen 2
    have y3 := HQ4.out.frozen 3
    clear hb4 HN HL
    have HRES : Hid (((((w4.setCell ⟨w.heap.size, 0, none⟩ (.int .i64 0)).setCell ⟨w.heap.size, 1, none⟩ (.int .i64 0)).setCell ⟨w.heap.size, 2, none⟩ (.int .i64 0)).setCell ⟨w.heap.size, 3, none⟩ (.int .i64 0)).heap[w.heap.size]? = some (.cells #[.int .i64 0, .int .i64 0, .int .i64 0, .int .i64 0] 26 (0, 0))) := quad_arr (quad_set HQ4.out _ _ _ _)
    have HBE : Hid (Below w.heap.size w ((((w4.setCell ⟨w.heap.size, 0, none⟩ (.int .i64 0)).setCell ⟨w.heap.size, 1, none⟩ (.int .i64 0)).setCell ⟨w.heap.size, 2, none⟩ (.int .i64 0)).setCell ⟨w.heap.size, 3, none⟩ (.int .i64 0))) :=
      ((((HB0.out.trans (HB4.out.mono (by omega))).setCell (p := ⟨w.heap.size, 0, none⟩) (Nat.le_refl _) _).setCell (p := ⟨w.heap.size, 1, none⟩) (Nat.le_refl _) _).setCell (p := ⟨w.heap.size, 2, none⟩) (Nat.le_refl _) _).setCell (p := ⟨w.heap.size, 3, none⟩) (Nat.le_refl _) _
    go_wp2_with fail
    (try simp only [Exit.inBlock, Exit.then])
    refine bodyPost_ret (results_ttct rfl _ _ w.heap.size 26 #[.int .i64 0, .int .i64 0, .int .i64 0, .int .i64 0] (0, 0) _ rfl HRES.out Tryz.underlying26 rfl (by kernel_rfl)) rfl ?_
    exact ⟨rfl, HBE.out⟩

end Go.Proofs.YtfppkjpgihnibaaGreatDoor
