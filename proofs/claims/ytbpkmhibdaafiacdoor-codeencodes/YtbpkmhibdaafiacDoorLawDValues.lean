/- The law DomainValues answers true: what any polynomial is at all points of any domain. -/
import Derived.Test.YtbpkmhibdaafiacDoorDoms
import Derived.Test.YtbpkmhibdaafiacDoorPls
namespace Go.Proofs.YtbpkmhibdaafiacDoor
open Go.RowKit

theorem rowB_of_F {w : World} {g n N n0 : Nat} {F : Nat → Value} {f : Nat → Int} (h : w.rowIs g 3 N F) (hn : n ≤ N) (hf : ∀ j, j < n → F j = .int .i64 (f j)) (hg : g < n0) : RowB n0 w (some ⟨g, 0, none⟩) (ls f n) := fun k hk => by
  rw [ls_len] at hk
  exact ⟨g, 0, rfl, hg, by rw [Nat.zero_add, ls_at _ _ _ hk, ← hf k hk]; exact h.cell (by omega)⟩

set_option maxRecDepth 1000000 in
set_option maxHeartbeats 4000000 in
theorem dvalues_walk (p n s : Int) (a1 : Option Addr) (c1 : Nat) (xs : List Int) (w : World) (hL : Laid w) (hp1 : -9223372036854775808 ≤ p) (hp2 : p ≤ 9223372036854775807) (hn1 : -9223372036854775808 ≤ n) (hn2 : n ≤ 9223372036854775807) (hs1 : -9223372036854775808 ≤ s) (hs2 : s ≤ 9223372036854775807)
    (hlx : xs.length ≤ 17592186043904) (hf1 : Fits xs) (hl1 : Lst w.heap.size w a1 c1 xs) :
    Calls Tryd.prog 4 #[.int .i64 p, .int .i64 n, .int .i64 s, .slice a1 xs.length c1] w fun e w' => e = .returned (.bool true) ∧ Below w.heap.size w w' := by
  have HF1 := hid hf1
  have HL1 := hid hl1
  clear hf1 hl1
  by_cases hgood : Good p n s
  · obtain ⟨q, k, rfl, rfl, hg⟩ := hgood
    have HG := hid hg
    obtain ⟨hpr, h3, h4, hk, hd, hs⟩ := hg
    have hnp : 0 < 2 ^ k := Nat.pow_pos (by decide)
    have hnl := two_pow_le hk
    have HPR := hid hpr
    have HM := hid (fun w1 => made_yes q k s w1 HG.out hs1 hs2)
    have HRT : Hid (∀ r : Nat, RootIs q ((2 ^ k : Nat) : Int) r → Dom.Ord q (r : Int) (2 ^ k) ∧ r < q) := fun r h => root_ord2 HG.out.pr h3 HG.out.hd h
    have HVAL : Hid (∀ (b d cap : Nat) (r t : Int) (a : Option Addr) (zs : List Int) (w2 : World), w2.cell? ⟨b, 0, none⟩ = some (.int .i64 q) → DomAt w2 d b ((2 ^ k : Nat) : Int) r t → 0 ≤ r → r < q → Dom.Ord q r (2 ^ k) → 0 ≤ t → t < q → zs.length ≤ 281474976710656 → Fits zs → RowB w2.heap.size w2 a zs →
        Calls Tryd.prog 19 #[.pointer (some ⟨d, 0, none⟩), .slice a zs.length cap] w2 fun e w' =>
          e = .returned (.slice (some ⟨w2.heap.size, 0, none⟩) (2 ^ k) (2 ^ k)) ∧ w'.rowIs w2.heap.size 3 (2 ^ k) (fun j => .int .i64 (evz q zs (Dom.pt q t r j))) ∧ Below w2.heap.size w2 w' ∧ w2.heap.size < w'.heap.size) :=
      fun b d cap r t a zs w2 z1 z2 z3 z4 z5 z6 z7 z8 z9 z10 => values_any q b d k (2 ^ k) cap r t (· < w2.heap.size) a zs w2 HPR.out h3 h4 z1 z2 hk rfl z3 z4 z5 z6 z7 z8 z9 z10 (fun _ h => h)
    clear hpr hd hs hp1 hp2 hn1 hn2
    generalize 2 ^ k = N at *
    go_enter Tryd.func4, Tryd.ntmps4
    go_wp2_with fail
    refine (HM.out _).mono ?_
    rintro e w1 ⟨b, d, r, rfl, hr, hc1, hda, hb1⟩
    obtain ⟨hord, hrlt⟩ := HRT.out r hr
    have HORD := hid hord
    obtain ⟨t0, t1⟩ := emod_bounds s q h3
    generalize s % (q : Int) = t at *
    have HC1 := hid hc1
    have HDA := hid hda
    have HB1 := hid hb1
    clear hr hord hc1 hda hb1 HM HRT
    have HB2 : Hid (Below w1.heap.size w1 (w1.alloc (.cells #[.int .i64 q, .int .i64 N, .int .i64 t, .int .i64 r] 24))) := (Below.refl _ _).alloc (Nat.le_refl _) _
    have hsx : (w1.alloc (.cells #[.int .i64 q, .int .i64 N, .int .i64 t, .int .i64 r] 24)).heap.size = w1.heap.size + 1 := by simp
    have HSX := hid hsx
    have HQ2 := hid (quad_new w1 24 (.int .i64 q) (.int .i64 N) (.int .i64 t) (.int .i64 r))
    have HL2 : Hid (Lst (w1.alloc (.cells #[.int .i64 q, .int .i64 N, .int .i64 t, .int .i64 r] 24)).heap.size (w1.alloc (.cells #[.int .i64 q, .int .i64 N, .int .i64 t, .int .i64 r] 24)) a1 c1 xs) :=
      (((HL1.out.below HB1.out).mono HB1.out.size).below HB2.out).mono HB2.out.size
    have HL2' : Hid (RowB (w1.heap.size + 1) (w1.alloc (.cells #[.int .i64 q, .int .i64 N, .int .i64 t, .int .i64 r] 24)) a1 xs) := by unfold Hid; rw [← HSX.out]; exact HL2.out.row
    clear hsx
    go_wp2_with (at_builtin; refine wpList_copyG (w1.alloc (.cells #[.int .i64 q, .int .i64 N, .int .i64 t, .int .i64 r] 24)) (w1.heap.size + 1) HSX.out rfl _ _ rfl rfl a1 c1 xs rfl (by omega) HL2.out ?_)
    intro ax cx w3 hlx3 hb3 hlt3
    have hsz1 : w1.heap.size < w3.heap.size := by have := HSX.out; omega
    have HC3 := hid ((hb3.cell (p := ⟨b, 0, none⟩) (by have := heap_lt HC1.out; have := HSX.out; show b < _; omega)).trans ((HB2.out.cell (p := ⟨b, 0, none⟩) (heap_lt HC1.out)).trans HC1.out))
    have HD3 := hid ((HDA.out.below HB2.out HDA.out.lt).below hb3 (by have := HDA.out.lt; have := HSX.out; omega))
    have HQ3 := hid (HQ2.out.of_block (hb3.block w1.heap.size (by have := HSX.out; omega)))
    have HA3 : Hid (Alive w3 [(ax, xs), (a1, xs)]) := ((Alive.nil w3).cons ((HL2'.out.below hb3).mono (by have := hb3.size; have := HSX.out; omega))).cons hlx3.row
    have HB3 : Hid (Below w.heap.size w w3) := HB1.out.trans ((HB2.out.mono HB1.out.size).trans (hb3.mono (by have := HB1.out.size; have := HSX.out; omega)))
    clear hlx3 hb3 hlt3 HL2 HL2' HQ2 HB2 HB1 HC1 HDA HSX HL1
    go_wp2_with fail
    refine (HVAL.out b d cx r t ax xs w3 HC3.out HD3.out (by omega) (by omega) HORD.out t0 t1 (by omega) HF1.out (HA3.out.at 0 rfl)).mono ?_
    rintro e w4 ⟨rfl, hri, hb4, hlt4⟩
    have HR4 : Hid (RowB w4.heap.size w4 (some ⟨w3.heap.size, 0, none⟩) (ls (fun j => evz q xs (Dom.pt q t r j)) N)) := rowB_of_F hri (Nat.le_refl _) (fun _ _ => rfl) hlt4
    have HA4 : Hid (Alive w4 [(some ⟨w3.heap.size, 0, none⟩, ls (fun j => evz q xs (Dom.pt q t r j)) N), (ax, xs), (a1, xs)]) := (HA3.out.step hb4).cons HR4.out
    have HQ4 := hid (HQ3.out.of_block (hb4.block w1.heap.size hsz1))
    have HB4 : Hid (Below w.heap.size w w4) := HB3.out.trans (hb4.mono HB3.out.size)
    have z0 := HQ4.out.cell (i := 0) (by omega)
    have z1 := HQ4.out.cell (i := 1) (by omega)
    have z2 := HQ4.out.cell (i := 2) (by omega)
    have z3 := HQ4.out.cell (i := 3) (by omega)
    simp only [quad] at z0 z1 z2 z3
    clear hri hb4 HR4 HA3 HQ3 HC3 HD3
    go_wp2_with fail
    refine (rvalues_any q N c1 r t a1 xs w4 h3 h4 hnp hnl (by omega) (by omega) t0 t1 (by omega) HF1.out (HA4.out.at 2 rfl)).mono ?_
    rintro e w5 ⟨g, M, F, rfl, hg, hri, hM, hF, hb5⟩
    have HA5 : Hid (Alive w5 [(some ⟨g, 0, none⟩, ls (fun j => evz q xs (Dom.pt q t r j)) N), (some ⟨w3.heap.size, 0, none⟩, ls (fun j => evz q xs (Dom.pt q t r j)) N), (ax, xs), (a1, xs)]) := (HA4.out.step hb5).cons (rowB_of_F hri hM hF hri.lt)
    have HB5 : Hid (Below w.heap.size w w5) := HB4.out.trans (hb5.mono HB4.out.size)
    have hll := ls_len (fun j => evz q xs (Dom.pt q t r j)) N
    have HI := hid (ints_same _ _ (ls (fun j => evz q xs (Dom.pt q t r j)) N) _ _ N M w5 (HA5.out.at 1 rfl) (HA5.out.at 0 rfl) (by omega))
    rw [hll] at HI
    clear hri hF hb5 hll z0 z1 z2 z3 HA4 HQ4
    go_wp2_with fail
    refine HI.out.mono ?_
    rintro e w6 ⟨rfl, n6, rfl⟩
    go_wp2_with fail
    refine (ints_same _ _ xs _ _ cx c1 _ ((HA5.out.drewN n6).at 2 rfl) ((HA5.out.drewN n6).at 3 rfl) (by omega)).mono ?_
    rintro e w7 ⟨rfl, n7, rfl⟩
    go_wp2_with fail
    go_ret
    exact ⟨rfl, below_drewN HB5.out _⟩
  · have HM := hid (made_no p n s w hL hgood hp1 hp2 hn1 hn2 hs1 hs2)
    clear hgood
    go_enter Tryd.func4, Tryd.ntmps4
    go_wp2_with fail
    refine HM.out.mono ?_
    rintro e w1 ⟨rfl, hb1⟩
    have HB1 := hid hb1
    clear hb1
    go_wp2_with fail
    go_ret
    exact ⟨rfl, HB1.out.alloc HB1.out.size _⟩

end Go.Proofs.YtbpkmhibdaafiacDoor
