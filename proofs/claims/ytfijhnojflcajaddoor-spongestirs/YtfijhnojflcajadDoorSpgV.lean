/- Package sponge: changed, Permute, Unpermute, Mix. -/
import Derived.Test.YtfijhnojflcajadDoorSpgU
namespace Go.Proofs.YtfijhnojflcajadDoor
open Go.RowKit

theorem enters_of {P : Program} {f : FuncId} {fn : Func} (hf : P.funcs[f]? = some fn) (hb : fn.body.isNone = false) (hn : (fn.name == "runtime.NumGoroutine") = false) (args : Array Value) (w : World) : (callFunc f args).run P w = .ok (.enter f args) w := by
  simp only [callFunc, Sem.run_bind, run_program, Result.andThen_ok, hf, hn, hb]
  rfl

theorem changed_no (n cap F s : Nat) (a : Option Addr) (w : World) (hn : n ≠ 8) :
    Calls Tryd.prog 56 #[.pointer (some ⟨s, 0, none⟩), .slice a n cap, .func (.func F) #[.pointer (some ⟨s, 0, none⟩)] #[]] w fun e w' => e = .returned (.slice none 0 0) ∧ w' = w := by
  have h1 : ((n : Int) != 8) = true := by rw [bne_iff_ne]; omega
  clear hn
  go_enter Tryd.func56, Tryd.ntmps56
  go_wp2_with fail
  go_ret
  exact ⟨rfl, rfl⟩

set_option maxRecDepth 100000 in
set_option maxHeartbeats 1000000 in
theorem changed_any (q n d b s cap F : Nat) (R : (Nat → Int) → Nat → Int) (a : Option Addr) (f : Nat → Int) (w : World) (h3 : 3 ≤ q) (hm : q ≤ 2147483647) (hs : SpgAt w s b q n d)
    (hfit : FitsF 8 f) (hrow : RowF (· < w.heap.size) w a 8 f)
    (hcf : ∀ (args : Array Value) (w1 : World), (callFunc F args).run Tryd.prog w1 = .ok (.enter F args) w1)
    (HC : ∀ (w1 : World) (g : Nat → Int), SpgAt w1 s b q n d → (∀ j, j < 8 → 0 ≤ g j ∧ g j < q) → Calls Tryd.prog F #[.pointer (some ⟨s, 0, none⟩), .agg (an 8 g)] w1 fun e w' => e = .returned (.agg (an 8 (R g))) ∧ Below w1.heap.size w1 w') :
    Calls Tryd.prog 56 #[.pointer (some ⟨s, 0, none⟩), .slice a 8 cap, .func (.func F) #[.pointer (some ⟨s, 0, none⟩)] #[]] w fun e w' =>
      e = .returned (.slice (some ⟨w.heap.size, 0, none⟩) 8 8) ∧ ArrI w' w.heap.size 80 8 (R (fun j => f j % (q : Int))) ∧ Below w.heap.size w w' := by
  have HS := hid hs
  have HF := hid hfit
  have HR := hid hrow
  have HCC := hid HC
  clear hs hfit hrow HC
  obtain ⟨G, hG⟩ : ∃ G : Nat → Int, G = fun j => f j % (q : Int) := ⟨_, rfl⟩
  rw [← hG]
  have HGV := hid hG
  clear hG
  go_enter Tryd.func56, Tryd.ntmps56
  go_wp2_with fail
  go_loopw [15] (fun iv wr => ∃ k : Nat, k ≤ 8 ∧ iv = .int .i64 k ∧ Hid (ArrI wr w.heap.size 80 8 (fll G (fun _ => 0) k)) ∧ Hid (Below w.heap.size w wr))
    (fun iv _ => 8 - (intOf iv).toNat)
  case atStart =>
    refine ⟨0, by omega, rfl, ?_, (Below.refl _ _).alloc (Nat.le_refl _) _⟩
    rw [fll_zero]
    exact ArrI.new w 8 80 (fun _ => 0)
  case round =>
    obtain ⟨k, hk, rfl, hA, hbel⟩ := hrel
    by_cases hlt : k < 8
    · have hlt2 : (k : Int) < 8 := by omega
      have hGk : G k = f k % (q : Int) := congrFun HGV.out k
      have HA2 := hid hA.out.next
      have HBL := hid (hbel.out.setCell (p := ⟨w.heap.size, k, none⟩) (by simp) (.int .i64 (G k)))
      have c1 := hA.out.cell hlt
      have y1 := hA.out.frozen k
      have HSW := hid (HS.out.keep hbel.out)
      have s0 := HSW.out.f
      have hks : IntKind.i64.wrap ((k : Int) + 1) = (k : Int) + 1 := by rw [IntKind.wrap_i64]; omega
      obtain ⟨bl, ol, rfl, hbl, hcl⟩ := HR.out k hlt
      have hcl2 := (hbel.out.cell (p := ⟨bl, ol + k, none⟩) hbl).trans hcl
      obtain ⟨hx1, hx2⟩ := HF.out k hlt
      have HMx := hid (of_any q b (f k) wr h3 hm HSW.out.p hx1 hx2)
      rw [← hGk] at HMx
      clear hGk hA hbel hcl hbl
      generalize G k = x at *
      generalize f k = y at *
      go_wp2_with fail
      refine HMx.out.mono ?_
      rintro e w1 ⟨rfl, rfl⟩
      go_wp2_with fail
      go_roundw
      case rel => exact ⟨k + 1, by omega, by go_num, HA2, HBL⟩
      case measure => simp [intOf]; omega
    · obtain rfl : k = 8 := by omega
      have HA8 : Hid (ArrI wr w.heap.size 80 8 G) := hA.out.congr (fun j hj => fll_all hj)
      have HBL := hid hbel.out
      have HSW := hid (HS.out.keep hbel.out)
      have hltA := HA8.out.lt
      clear hA hbel
      go_wp2_with (refine wpList_load_an rfl 80 _ rfl _ rfl _ _ _ _ _ HA8.out Tryd.underlying80 (by kernel_rfl) ?_)
      refine (HCC.out wr G HSW.out (fun j _ => by rw [HGV.out]; exact emod_bounds _ q h3)).mono ?_
      rintro e w1 ⟨rfl, hb1⟩
      have HA1 := hid (HA8.out.below hb1 hltA)
      have HBL1 : Hid (Below w.heap.size w w1) := HBL.out.trans (hb1.mono HBL.out.size)
      clear hb1 HA8 HBL HSW
      go_wp2_with (refine wpList_store_an rfl 80 _ _ rfl _ _ _ _ rfl rfl _ HA1.out (by kernel_rfl) ?_)
      go_ret
      exact ⟨rfl, HA1.out.setRow _, below_setRow HBL1.out (Nat.le_refl _) _⟩

theorem Permute_any (q n d b s cap : Nat) (a : Option Addr) (f : Nat → Int) (w : World) (ok : SpgOk q n d) (hs : SpgAt w s b q n d) (hfit : FitsF 8 f) (hrow : RowF (· < w.heap.size) w a 8 f) :
    Calls Tryd.prog 28 #[.pointer (some ⟨s, 0, none⟩), .slice a 8 cap] w fun e w' =>
      e = .returned (.slice (some ⟨w.heap.size, 0, none⟩) 8 8) ∧ ArrI w' w.heap.size 80 8 (stir q n (fun j => f j % (q : Int)) 8) ∧ Below w.heap.size w w' := by
  have HH := hid (changed_any q n d b s cap 57 (fun g => stir q n g 8) a f w (by have := ok.h23; omega) ok.hm hs hfit hrow (enters_of Tryd.func57 (by kernel_rfl) (by kernel_rfl)) (fun w1 g h1 h2 => permuted_any q n d b s g w1 ok h1 h2))
  clear hfit hrow hs ok
  go_enter Tryd.func28, Tryd.ntmps28
  go_wp2_with fail
  refine HH.out.mono ?_
  rintro e w1 ⟨rfl, hA, hb⟩
  have HA := hid hA
  have HB := hid hb
  clear hA hb HH
  go_wp2_with fail
  go_ret
  exact ⟨rfl, HA.out, HB.out⟩

theorem Unpermute_any (q n d b s cap : Nat) (a : Option Addr) (f : Nat → Int) (w : World) (ok : SpgOk q n d) (hs : SpgAt w s b q n d) (hfit : FitsF 8 f) (hrow : RowF (· < w.heap.size) w a 8 f) :
    Calls Tryd.prog 30 #[.pointer (some ⟨s, 0, none⟩), .slice a 8 cap] w fun e w' =>
      e = .returned (.slice (some ⟨w.heap.size, 0, none⟩) 8 8) ∧ ArrI w' w.heap.size 80 8 (ust q d (fun j => f j % (q : Int)) 8) ∧ Below w.heap.size w w' := by
  have HH := hid (changed_any q n d b s cap 59 (fun g => ust q d g 8) a f w (by have := ok.h23; omega) ok.hm hs hfit hrow (enters_of Tryd.func59 (by kernel_rfl) (by kernel_rfl)) (fun w1 g h1 h2 => unpermuted_any q n d b s g w1 ok h1 h2))
  clear hfit hrow hs ok
  go_enter Tryd.func30, Tryd.ntmps30
  go_wp2_with fail
  refine HH.out.mono ?_
  rintro e w1 ⟨rfl, hA, hb⟩
  have HA := hid hA
  have HB := hid hb
  clear hA hb HH
  go_wp2_with fail
  go_ret
  exact ⟨rfl, HA.out, HB.out⟩

theorem Mix_any (q n d b s cap : Nat) (a : Option Addr) (f : Nat → Int) (w : World) (ok : SpgOk q n d) (hs : SpgAt w s b q n d) (hfit : FitsF 8 f) (hrow : RowF (· < w.heap.size) w a 8 f) :
    Calls Tryd.prog 29 #[.pointer (some ⟨s, 0, none⟩), .slice a 8 cap] w fun e w' =>
      e = .returned (.slice (some ⟨w.heap.size, 0, none⟩) 8 8) ∧ ArrI w' w.heap.size 80 8 (mx q (fun j => f j % (q : Int))) ∧ Below w.heap.size w w' := by
  have HH := hid (changed_any q n d b s cap 58 (fun g => mx q g) a f w (by have := ok.h23; omega) ok.hm hs hfit hrow (enters_of Tryd.func58 (by kernel_rfl) (by kernel_rfl)) (fun w1 g h1 h2 => mixed_any q n d b s g w1 (by have := ok.h23; omega) ok.hm h1 h2))
  clear hfit hrow hs ok
  go_enter Tryd.func29, Tryd.ntmps29
  go_wp2_with fail
  refine HH.out.mono ?_
  rintro e w1 ⟨rfl, hA, hb⟩
  have HA := hid hA
  have HB := hid hb
  clear hA hb HH
  go_wp2_with fail
  go_ret
  exact ⟨rfl, HA.out, HB.out⟩

/-- of what has not 8 places: nothing -/
theorem Permute_no (n cap s : Nat) (a : Option Addr) (w : World) (hn : n ≠ 8) :
    Calls Tryd.prog 28 #[.pointer (some ⟨s, 0, none⟩), .slice a n cap] w fun e w' => e = .returned (.slice none 0 0) ∧ w' = w := by
  have HH := hid (changed_no n cap 57 s a w hn)
  clear hn
  go_enter Tryd.func28, Tryd.ntmps28
  go_wp2_with fail
  refine HH.out.mono ?_
  rintro e w1 ⟨rfl, rfl⟩
  go_wp2_with fail
  go_ret
  exact ⟨rfl, rfl⟩
theorem Unpermute_no (n cap s : Nat) (a : Option Addr) (w : World) (hn : n ≠ 8) :
    Calls Tryd.prog 30 #[.pointer (some ⟨s, 0, none⟩), .slice a n cap] w fun e w' => e = .returned (.slice none 0 0) ∧ w' = w := by
  have HH := hid (changed_no n cap 59 s a w hn)
  clear hn
  go_enter Tryd.func30, Tryd.ntmps30
  go_wp2_with fail
  refine HH.out.mono ?_
  rintro e w1 ⟨rfl, rfl⟩
  go_wp2_with fail
  go_ret
  exact ⟨rfl, rfl⟩
theorem Mix_no (n cap s : Nat) (a : Option Addr) (w : World) (hn : n ≠ 8) :
    Calls Tryd.prog 29 #[.pointer (some ⟨s, 0, none⟩), .slice a n cap] w fun e w' => e = .returned (.slice none 0 0) ∧ w' = w := by
  have HH := hid (changed_no n cap 58 s a w hn)
  clear hn
  go_enter Tryd.func29, Tryd.ntmps29
  go_wp2_with fail
  refine HH.out.mono ?_
  rintro e w1 ⟨rfl, rfl⟩
  go_wp2_with fail
  go_ret
  exact ⟨rfl, rfl⟩

end Go.Proofs.YtfijhnojflcajadDoor
