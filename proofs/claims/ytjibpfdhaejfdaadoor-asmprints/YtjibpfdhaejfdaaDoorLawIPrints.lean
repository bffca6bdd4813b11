/- The law AsmPrints answers true: the text of any code, or what is wrong. -/
import Derived.Test.YtjibpfdhaejfdaaDoorAqI
import Derived.Test.YtjibpfdhaejfdaaDoorFld
namespace Go.Proofs.YtjibpfdhaejfdaaDoor
open Go.RowKit

set_option maxRecDepth 100000 in
set_option maxHeartbeats 1000000 in
theorem iprints_walk (size : Int) (aL : Option Addr) (cL : Nat) (L : List InsZ) (w : World) (hLd : Laid w) (hG : FmW w) (hP : PowA w) (hn : L.length ≤ 281474976710656) (hI : LstI w.heap.size w aL cL L) :
    Calls Tryd.prog 3 #[.agg #[.int .i64 size, .slice aL L.length cL]] w fun e w' => e = .returned (.bool true) ∧ Below w.heap.size w w' := by
  obtain ⟨W0, hW0⟩ : ∃ W0, W0 = w.alloc (.cells #[.int .i64 size, .slice aL L.length cL] 24) := ⟨_, rfl⟩
  have hb0 : Below w.heap.size w W0 := by rw [hW0]; exact (Below.refl _ _).alloc (Nat.le_refl _) _
  have hs0 : W0.heap[w.heap.size]? = some (.cells #[.int .i64 size, .slice aL L.length cL] 24 (0, 0)) := by rw [hW0]; exact heap_alloc_new w _
  have hl0 := (Array.getElem?_eq_some_iff.1 hs0).1
  have HB0 := hid hb0
  have HC0 : Hid (∀ W, Below W0.heap.size W0 W → W.cell? ⟨w.heap.size, 0, none⟩ = some (.int .i64 size) ∧ W.cell? ⟨w.heap.size, 1, none⟩ = some (.slice aL L.length cL)) := fun W hW => by
    have h1 := (hW.block _ hl0).trans hs0
    exact ⟨by simp [World.cell?, h1], by simp [World.cell?, h1]⟩
  obtain ⟨k0, k1⟩ := HC0.out W0 (Below.refl _ _)
  rw [hW0] at k0 k1
  have HLD : Hid (∀ W, Below w.heap.size w W → Laid W) := fun W hW => hLd.below hW
  obtain ⟨S, E, v, HP, HR, HV⟩ : ∃ (S : ByteArray) (E : Int) (v : Value), Hid (∀ W, Below w.heap.size w W → Calls Tryd.prog 4 #[.agg #[.int .i64 size, .slice aL L.length cL]] W fun e w' => e = .returned (.tuple #[.string S, v]) ∧ Below W.heap.size W w') ∧
      Hid (∀ W, Below w.heap.size w W → Calls Tryd.prog 5 #[.agg #[.int .i64 size, .slice aL L.length cL]] W fun e w' => e = .returned (.tuple #[.string S, .int .i64 E]) ∧ Below W.heap.size W w') ∧
      Hid (∀ W, Below w.heap.size w W → Calls Tryd.prog 6 #[v, .int .i64 E] W fun e w' => e = .returned (.bool true) ∧ Below W.heap.size W w') := by
    have hp := fun W (hW : Below w.heap.size w W) => pprintA_any size aL cL L W (hG.keep hW) (hP.keep hW) hn ((hI.below hW).mono hW.size)
    have hr := fun W (hW : Below w.heap.size w W) => rprintA_any size aL cL L W hn ((hI.below hW).mono hW.size)
    have hit : ∀ (E : Int) W, Below w.heap.size w W → Calls Tryd.prog 6 #[.iface 33 (.int .i64 E), .int .i64 E] W fun e w' => e = .returned (.bool true) ∧ Below W.heap.size W w' := fun E W hW => by
      have h := error_hit E E W (hLd.below hW)
      simpa using h
    by_cases hb : 4096 < L.length
    · simp only [if_pos hb] at hp hr
      exact ⟨_, _, _, hp, hr, hit 9⟩
    · by_cases hc : WrC size L
      · simp only [if_neg hb, if_pos hc] at hp hr
        refine ⟨_, _, _, hp, hr, fun W hW => ?_⟩
        refine (error_nil 0 W).mono ?_
        rintro e w' ⟨rfl, rfl⟩
        exact ⟨by simp, Below.refl _ _⟩
      · simp only [if_neg hb, if_neg hc] at hp hr
        exact ⟨_, _, _, hp, hr, hit 3⟩
  clear hLd hG hP hn hI hb0 hs0 hl0
  go_enter Tryd.func3, Tryd.ntmps3
  go_wp2_with fail
  rw [← hW0]
  clear k0 k1 hW0
  refine (HP.out W0 HB0.out).mono ?_
  rintro e w1 ⟨rfl, hb1⟩
  obtain ⟨k0, k1⟩ := HC0.out w1 hb1
  have HB1 : Hid (Below w.heap.size w w1) := HB0.out.trans (hb1.mono HB0.out.size)
  clear hb1
  go_wp2_with fail
  clear k0 k1
  refine (HR.out w1 HB1.out).mono ?_
  rintro e w2 ⟨rfl, hb2⟩
  have HB2 : Hid (Below w.heap.size w w2) := HB1.out.trans (hb2.mono HB1.out.size)
  clear hb2
  go_wp2_with fail
  refine (HV.out w2 HB2.out).mono ?_
  rintro e w3 ⟨rfl, hb3⟩
  have HB3 : Hid (Below w.heap.size w w3) := HB2.out.trans (hb3.mono HB2.out.size)
  clear hb3
  go_wp2_with fail
  go_ret
  exact ⟨by first | rfl | simp, HB3.out⟩

end Go.Proofs.YtjibpfdhaejfdaaDoor
