/- Package tree: Root. Package pledge: Commit. attestref12: two, Powers, Dot, Sum, Unit, Units. attestref12: Sum, Unit, Units, Fits. A region that draws its order, walked by hand: what is read is taken first. A region that draws its order, walked by hand: an operation that is not wanted is passed by. -/
import Derived.Test.YtpgnabmkfkcogaaGreatDoorTrhH
import Derived.Test.YtpgnabmkfkcogaaGreatDoorPmB
import Derived.Test.YtpgnabmkfkcogaaGreatDoorGxAF
import Derived.Test.YtpgnabmkfkcogaaGreatDoorSpgs
import Derived.Test.YtpgnabmkfkcogaaGreatDoorGxAO
import Derived.StillTailTactics
import Derived.Test.YtpgnabmkfkcogaaGreatDoorFld
import Derived.OrdersHeld
import Derived.Deep.RegionHeld3
namespace Go.Proofs.YtpgnabmkfkcogaaGreatDoor
open Go.RowKit

theorem once_nil {os : List Int} (h : OnceIs [] os) : os = [] := by
  cases os with
  | nil => rfl
  | cons x l => exact absurd ((h.2 x).1 (by simp)) (by simp)
theorem ndf_nil (q n : Nat) (rows : List (List Int)) (h : 1 ≤ rows.length) : ndf q n rows.length rows [] 0 = [rtf q n rows.length rows] := by
  obtain ⟨k, hk⟩ : ∃ k, rows.length = k + 1 := ⟨rows.length - 1, by omega⟩
  rw [hk, ndf, if_pos (by simp [smb])]

/-- what Root answers -/
def RootA (q n : Nat) (rows : List (List Int)) (w : World) (e : Ending) (w' : World) : Prop :=
  ∃ a c, e = .returned (.tuple #[.slice a 4 c, .nilIface]) ∧ Lst w'.heap.size w' a c (rtf q n rows.length rows) ∧ Below w.heap.size w w'

set_option maxRecDepth 100000 in
set_option maxHeartbeats 1000000 in
theorem treeroot_any (q n d b s cap : Nat) (a : Option Addr) (rows : List (List Int)) (w : World) (ok : SpgOk q n d) (hs : SpgAt w s b q n d) (h1 : 1 ≤ rows.length) (h2 : rows.length ≤ 65536) (hfr : FitsR rows) (hl : LstR w.heap.size w a cap rows) :
    Calls Tryz.prog 50 #[.pointer (some ⟨s, 0, none⟩), .slice a rows.length cap] w (RootA q n rows w) := by
  have HO := hid (open_any q n d b s cap 0 a none rows [] w ok hs h1 h2 (by simp) hfr hl (fun k hk => by simp at hk) (by simp))
  have hnd := ndf_nil q n rows h1
  have HND := hid hnd
  clear ok hs hfr hl
  rw [List.length_nil] at HO
  have HO2 : Hid (Calls Tryz.prog 108 #[.pointer (some ⟨s, 0, none⟩), .slice a rows.length cap, .slice none 0 0] w fun e w' => ∃ bn on ap ar cp cr cn an0 c0, e = .returned (.tuple #[.agg #[.slice ap 0 cp, .slice ar 0 cr, .slice (some ⟨bn, on, none⟩) 1 cn], .nilIface]) ∧ w'.cell? ⟨bn, on + 0, none⟩ = some (.slice an0 4 c0) ∧ bn < w'.heap.size ∧ Lst w'.heap.size w' an0 c0 (rtf q n rows.length rows) ∧ Below w.heap.size w w') := by
    refine HO.out.mono ?_
    rintro e w' ⟨os, ap, ar, an', cp, cr, cn, rfl, hos, hp, hr, hn, hb⟩
    have := once_nil hos
    subst this
    rw [hnd] at hn ⊢
    obtain ⟨_, _, e1, hll⟩ := hn.lst
    cases e1
    obtain ⟨bn, on, ak, ck, rfl, hbn, hcn, hlk⟩ := hll.row 0 (by simp)
    have hl4 : (rat [rtf q n rows.length rows] 0).length = 4 := rtf_len q n _ _ h1
    rw [hl4] at hcn
    exact ⟨bn, on, ap, ar, cp, cr, cn, ak, ck, rfl, hcn, hbn, hlk, hb⟩
  clear HO hnd
  go_enter Tryz.func50, Tryz.ntmps50
  go_wp2_with fail
  refine HO2.out.mono ?_
  rintro e w1 ⟨bn, on, ap, ar, cp, cr, cn, an0, c0, rfl, hcn, hbn, hl0, hb1⟩
  have HBX : Hid (Below w1.heap.size w1 (w1.alloc (.cells #[.slice ap 0 cp, .slice ar 0 cr, .slice (some ⟨bn, on, none⟩) 1 cn] 49))) := (Below.refl _ _).alloc (Nat.le_refl _) _
  have HB := hid (hb1.trans (HBX.out.mono hb1.size))
  have HL := hid ((hl0.below HBX.out).mono HBX.out.size)
  have hc1 := (HBX.out.cell (p := ⟨bn, on + 0, none⟩) hbn).trans hcn
  have HO1 := hid (tri_new w1 49 (.slice ap 0 cp) (.slice ar 0 cr) (.slice (some ⟨bn, on, none⟩) 1 cn))
  have k2 := HO1.out.cell (i := 2) (by omega)
  simp only [tri] at k2
  rw [Nat.add_zero] at hc1
  clear hcn hl0 hb1
  go_wp2_with fail
  go_ret2
  exact ⟨an0, c0, rfl, HL.out, HB.out⟩

end Go.Proofs.YtpgnabmkfkcogaaGreatDoor

namespace Go.Proofs.YtpgnabmkfkcogaaGreatDoor
open Go.RowKit

theorem half_two (v : Nat) : 2 ^ v = 2 ^ (v - v / 2) * 2 ^ (v / 2) := by
  rw [← Nat.pow_add]
  congr 1
  omega
/-- what a table over v variables is held to by -/
def ctz (q n : Nat) (s r : Int) (N v : Nat) (t : List Int) : List Int := rtf q n N (cll q s r N (rwl (2 ^ (v - v / 2)) (2 ^ (v / 2)) t))
theorem some_of_lst {n0 : Nat} {w : World} {a : Option Addr} {c : Nat} {t : List Int} (h : Lst n0 w a c t) (h0 : 0 < t.length) : ∃ ap o, a = some ⟨ap, o, none⟩ := by
  obtain ⟨b, o, e, _⟩ := h.row 0 h0
  exact ⟨b, o, e⟩

set_option maxRecDepth 100000 in
set_option maxHeartbeats 2000000 in
theorem commit_yes (q n dd sp b d v cp N : Nat) (r s : Int) (a : Option Addr) (t : List Int) (w : World) (ok : SpgOk q n dd) (hs : SpgAt w sp b q n dd) (hD : DO w q b d N r s) (hT : TabAt 2 Lib.deBruijn64tab w) (hv : v ≤ 12) (ht : t.length = 2 ^ v) (hN : 2 ^ (v - v / 2) ≤ N / 2) (hf : Fits t) (hl : Lst w.heap.size w a cp t) :
    Calls Tryz.prog 17 #[.pointer (some ⟨sp, 0, none⟩), .pointer (some ⟨d, 0, none⟩), .slice a t.length cp] w fun e w' => ∃ a' c', e = .returned (.tuple #[.slice a' 4 c', .nilIface]) ∧ Lst w'.heap.size w' a' c' (ctz q n s r N v t) ∧ Below w.heap.size w w' := by
  obtain ⟨ap, o, rfl⟩ := some_of_lst hl (by rw [ht]; exact Nat.two_pow_pos v)
  obtain ⟨kk, hkk, hNN⟩ := hD.hk
  have hN16 : N ≤ 65536 := by rw [hNN]; have := two_pow_le hkk; exact this
  have hN1 : 1 ≤ N := by rw [hNN]; exact Nat.one_le_two_pow
  have h3 := hD.h3
  have hpm := hD.hm
  have hm12 : 2 ^ (v / 2) ≤ 4096 := by have := Nat.pow_le_pow_right (show 0 < 2 by omega) (show v / 2 ≤ 12 by omega); omega
  have HSH := hid (shapeOf_yes d b v N cp r s (some ⟨ap, o, none⟩) w hD.da hv hN16 hT)
  rw [decide_eq_true hN] at HSH
  rw [ht]
  have HCL : Hid (∀ W, Below w.heap.size w W → Calls Tryz.prog 51 #[shV b d v, .slice (some ⟨ap, o, none⟩) (2 ^ v) cp] W fun e w' => ∃ a c, e = .returned (.slice a N c) ∧ LstR w'.heap.size w' a c (cll q s r N (rwl (2 ^ (v - v / 2)) (2 ^ (v / 2)) t)) ∧ Below W.heap.size W w') := fun W hW =>
    pcolumns_any q b d v ap o cp (2 ^ (v / 2)) N r s t W (hD.below hW (heap_lt hD.hp) hD.da.lt) hv ht (half_two v) hf ((hl.below hW).mono hW.size)
  have HRT : Hid (∀ (W : World) (c : Nat) (a : Option Addr), Below w.heap.size w W → LstR W.heap.size W a c (cll q s r N (rwl (2 ^ (v - v / 2)) (2 ^ (v / 2)) t)) → Calls Tryz.prog 50 #[.pointer (some ⟨sp, 0, none⟩), .slice a N c] W fun e w' => ∃ a c, e = .returned (.tuple #[.slice a 4 c, .nilIface]) ∧ Lst w'.heap.size w' a c (ctz q n s r N v t) ∧ Below W.heap.size W w') := fun W c a hW hla => by
    have h := treeroot_any q n dd b sp c a _ W ok (hs.below hW hs.lt hs.ltb) (by rw [cll_len]; exact hN1) (by rw [cll_len]; exact hN16) (cll_fits h3 hpm s r N _ hN16 (by rw [rwl_len]; exact hm12)) hla
    unfold RootA at h
    rw [cll_len] at h
    exact h
  obtain ⟨L, hL⟩ : ∃ L, L = 2 ^ v := ⟨_, rfl⟩
  rw [← hL] at HSH HCL ⊢
  unfold shV at HSH HCL
  generalize ((v / 2 : Nat) : Int) = hi at *
  generalize ((v - v / 2 : Nat) : Int) = lo at *
  clear hL ok hs hD hT hv ht hN hf hl hkk hNN hm12
  go_enter Tryz.func17, Tryz.ntmps17
  go_wp2_with fail
  refine HSH.out.mono ?_
  rintro e w1 ⟨rfl, hb1⟩
  obtain ⟨W2, hW2⟩ : ∃ W2, W2 = w1.alloc (.cells #[.pointer (some ⟨b, 0, none⟩), .pointer (some ⟨d, 0, none⟩), .int .i64 hi, .int .i64 lo] 108) := ⟨_, rfl⟩
  have hb2 : Below w1.heap.size w1 W2 := by rw [hW2]; exact (Below.refl _ _).alloc (Nat.le_refl _) _
  have HB2 : Hid (Below w.heap.size w W2) := hb1.trans (hb2.mono hb1.size)
  have HCX := hid (HCL.out W2 HB2.out)
  have HW2 := hid hW2
  clear hb1 hb2 hW2 HSH HCL
  go_wp2_with fail
  rw [← HW2.out]
  refine HCX.out.mono ?_
  rintro e w3 ⟨ac, cc, rfl, hc3, hb3⟩
  have HB3 : Hid (Below w.heap.size w w3) := HB2.out.trans (hb3.mono HB2.out.size)
  have HRX := hid (HRT.out w3 cc ac HB3.out hc3)
  clear hc3 hb3 HCX HRT
  go_wp2_with fail
  refine HRX.out.mono ?_
  rintro e w4 ⟨a', c', rfl, hl4, hb4⟩
  have HE : Hid (Below w.heap.size w w4) := HB3.out.trans (hb4.mono HB3.out.size)
  have HL4 := hid hl4
  clear hl4 hb4 HRX
  go_wp2_with fail
  go_ret2
  exact ⟨a', c', rfl, HL4.out, HE.out⟩

/-- may a table of so many elements be held to? -/
def CmO (N n : Nat) : Prop := ∃ v, v ≤ 12 ∧ n = 2 ^ v ∧ 2 ^ (v - v / 2) ≤ N / 2
set_option maxRecDepth 100000 in
set_option maxHeartbeats 1000000 in
theorem commit_no (sp b d n cp N : Nat) (r s : Int) (a : Option Addr) (w : World) (hD : DomAt w d b (N : Int) r s) (hN16 : N ≤ 65536) (hT : TabAt 2 Lib.deBruijn64tab w) (hn : n ≤ 9223372036854775807) (hno : ¬ CmO N n) :
    Calls Tryz.prog 17 #[.pointer (some ⟨sp, 0, none⟩), .pointer (some ⟨d, 0, none⟩), .slice a n cp] w fun e w' => e = .returned (.tuple #[.slice none 0 0, .iface 101 (.int .i64 2)]) ∧ Below w.heap.size w w' := by
  have HSH : Hid (∃ x1 x2 x3 x4, Calls Tryz.prog 49 #[.pointer (some ⟨d, 0, none⟩), .slice a n cp] w fun e w' => e = .returned (.tuple #[.agg #[.pointer x1, .pointer x2, .int .i64 x3, .int .i64 x4], .bool false]) ∧ Below w.heap.size w w') := by
    by_cases h : ∀ v, v ≤ 12 → n ≠ 2 ^ v
    · exact ⟨_, _, _, _, shapeOf_no d n cp a w hn h hT⟩
    · have ⟨v, hv, hvn⟩ : ∃ v, v ≤ 12 ∧ n = 2 ^ v := Classical.byContradiction fun hc => h fun v hv e => hc ⟨v, hv, e⟩
      subst hvn
      have h2 := shapeOf_yes d b v N cp r s a w hD hv hN16 hT
      rw [decide_eq_false (fun hh => hno ⟨v, hv, rfl, hh⟩)] at h2
      exact ⟨_, _, _, _, h2⟩
  obtain ⟨x1, x2, x3, x4, hsh⟩ := HSH.out
  have HSX := hid hsh
  clear hsh HSH hD hT hno
  go_enter Tryz.func17, Tryz.ntmps17
  go_wp2_with fail
  refine HSX.out.mono ?_
  rintro e w1 ⟨rfl, hb1⟩
  have HE : Hid (Below w.heap.size w (w1.alloc (.cells #[.pointer x1, .pointer x2, .int .i64 x3, .int .i64 x4] 108))) := hb1.alloc hb1.size _
  clear hb1 HSX
  go_wp2_with fail
  go_ret2
  exact ⟨rfl, HE.out⟩

end Go.Proofs.YtpgnabmkfkcogaaGreatDoor

namespace Go.Proofs.YtpgnabmkfkcogaaGreatDoor
open Go.RowKit

set_option maxRecDepth 100000 in
theorem rtwo_any (n : Nat) (w : World) (hn : n ≤ 60) : Calls Tryz.prog 52 #[.int .i64 (n : Int)] w fun e w' => e = .returned (.int .i64 ((2 ^ n : Nat) : Int)) ∧ w' = w := by
  obtain ⟨X0, hX0⟩ : ∃ X0 : Nat, X0 = 2 ^ n := ⟨_, rfl⟩
  rw [← hX0]
  have HX0 := hid hX0
  clear hX0
  go_enter Tryz.func52, Tryz.ntmps52
  go_wp2_with fail
  go_loop [3, 4] (fun xv iv => ∃ k X : Nat, k ≤ n ∧ iv = .int .i64 (k : Int) ∧ xv = .int .i64 (X : Int) ∧ Hid (X = 2 ^ k)) (fun _ iv => n - (intOf iv).toNat)
  case atStart => exact ⟨0, 1, by omega, rfl, rfl, rfl⟩
  case round =>
    obtain ⟨k, X, hk, rfl, rfl, HX⟩ := hrel
    by_cases hlt : k < n
    · have hlt2 : (k : Int) < (n : Int) := by omega
      have hks : IntKind.i64.wrap ((k : Int) + 1) = (k : Int) + 1 := by rw [IntKind.wrap_i64]; omega
      have hp : X ≤ 1152921504606846976 := by
        rw [HX.out]
        exact Nat.pow_le_pow_right (n := 2) (by decide) (show k ≤ 60 by omega)
      have HX2 : Hid (X * 2 = 2 ^ (k + 1)) := by unfold Hid; rw [HX.out, Nat.pow_succ]
      have hw : IntKind.i64.wrap ((X : Int) * 2) = ((X * 2 : Nat) : Int) := by rw [IntKind.wrap_i64]; omega
      go_wp2_with fail
      go_round
      case rel => exact ⟨k + 1, X * 2, by omega, by go_num, rfl, HX2⟩
      case measure => simp [intOf]; omega
    · obtain rfl : k = n := by omega
      have hlt2 : ¬ (k : Int) < (k : Int) := by omega
      obtain rfl : X = X0 := by rw [HX.out, HX0.out]
      go_wp2_with fail
      go_ret
      exact ⟨rfl, rfl⟩

set_option maxRecDepth 100000 in
set_option maxHeartbeats 1000000 in
theorem rpowers_any (q n : Nat) (r : Int) (w : World) (h3 : 3 ≤ q) (h4 : q ≤ 2147483647) (hr1 : -9223372036854775808 ≤ r) (hr2 : r ≤ 9223372036854775807) (hn : n ≤ 17592186044000) :
    Calls Tryz.prog 12 #[.int .i64 q, .int .i64 r, .int .i64 (n : Int)] w fun e w' => ∃ v, e = .returned v ∧ w'.ownsRow w.heap.size 3 1 v (pwl q r n).length ((pwl q r n).map (Value.int .i64)) ∧ Below w.heap.size w w' := by
  obtain ⟨i0, hi, hz0, hz1, hz2⟩ := info_parts Tryz.infoInt
  obtain ⟨B, hB⟩ : ∃ B : Nat → Int, B = fun i => ((Num.pwm q (el q r) i : Nat) : Int) := ⟨_, rfl⟩
  have HPW : Hid (∀ (W : World) (k : Nat), k < n → Calls Tryz.prog 44 #[.int .i64 q, .int .i64 r, .int .i64 (k : Int)] W fun e w' => e = .returned (.int .i64 (B k)) ∧ w' = W) := fun W k hk => by
    rw [hB]; exact rpow_nat q k r W h3 h4 hr1 hr2 (by omega)
  have HPL : Hid (pwl q r n = ls B n) := by unfold Hid pwl; rw [hB]
  rw [HPL.out]
  clear hB HPL
  go_enter Tryz.func12, Tryz.ntmps12
  go_wp2_with fail
  go_loopw [7, 8, 9] (fun v iv _ wr => ∃ j : Nat, j ≤ n ∧ iv = .int .i64 (j : Int) ∧ Hid (wr.ownsRow w.heap.size 3 1 v (ls B j).length ((ls B j).map (Value.int .i64)) ∧ Below w.heap.size w wr)) (fun _ iv _ _ => n - (intOf iv).toNat)
  case atStart => exact ⟨0, by omega, rfl, World.ownsRow_nil _ _ _ _, Below.refl _ _⟩
  case round =>
    obtain ⟨j, hj, rfl, hI⟩ := hrel
    by_cases hlt : j < n
    · have hlt2 : (j : Int) < (n : Int) := by omega
      have hks : IntKind.i64.wrap ((j : Int) + 1) = (j : Int) + 1 := by rw [IntKind.wrap_i64]; omega
      have HX := hid (HPW.out wr j hlt)
      have HSC := hid (ls_succ B j)
      generalize B j = z at *
      have hown := hI.out.1
      have hbel := hI.out.2
      have HLS := hid (ls_len B j)
      generalize ls B j = Z at *
      have hZ : Z.length ≤ 17592186044000 := by rw [HLS.out]; omega
      have hsz : w.heap.size ≤ wr.heap.size := hbel.size
      clear hI
      go_wp2_with fail
      refine HX.out.mono ?_
      rintro e w4 ⟨rfl, rfl⟩
      go_wp2_with (at_builtin; refine wpList_append_own _ rfl _ _ 23 rfl w.heap.size 3 i0 (.int .i64 0) 1 8 Tryz.underlying23 hi hz0 hz1 hz2 rfl (by decide) _ _ _ rfl (hown.alloc _) ⟨w4.heap.size, 0, none⟩ 1 1 [.int .i64 z] rfl rfl ?c1 ?c2 ?c3 ?c4 ?c5 ?_)
      case c1 =>
        intro j u hj
        match j, hj with
        | 0, hj => simp at hj; subst hj; simp [Addr.add]
      case c2 => intro u hu; simp at hu; subst hu; rfl
      case c3 => unfold maxLen; omega
      case c4 => omega
      case c5 => simp; omega
      intro v' w5 hown2 hgrow _
      have hown3 := owns_succ hown2
      have HE : Hid (w5.ownsRow w.heap.size 3 1 v' (ls B (j + 1)).length ((ls B (j + 1)).map (Value.int .i64)) ∧ Below w.heap.size w w5) := by
        unfold Hid
        rw [HSC.out]
        exact ⟨hown3, (hbel.alloc hsz _).grown hgrow (by simp; omega) (fun j hj => (hown.lt j hj).1)⟩
      clear hown2 hown3 hgrow hown hbel
      go_wp2_with fail
      go_roundw
      case rel => exact ⟨j + 1, by omega, by go_num, HE⟩
      case measure => simp [intOf]; omega
    · obtain rfl : j = n := by omega
      have hlt2 : ¬ (j : Int) < (j : Int) := by omega
      have HE := hid hI.out
      clear hI
      go_wp2_with fail
      go_ret
      exact ⟨_, rfl, HE.out⟩

end Go.Proofs.YtpgnabmkfkcogaaGreatDoor

namespace Go.Proofs.YtpgnabmkfkcogaaGreatDoor
open Go.RowKit

set_option maxRecDepth 100000 in
set_option maxHeartbeats 2000000 in
theorem rsum12_any (q c1 c2 m : Nat) (a1 a2 : Option Addr) (rows : List (List Int)) (by' : List Int) (w : World) (h3 : 3 ≤ q) (h4 : q ≤ 2147483647) (h1 : 1 ≤ rows.length) (hn : rows.length ≤ 17592186044000) (hm : m ≤ 17592186044000) (hw : ∀ k, k < rows.length → (rat rows k).length = m) (hb : rows.length ≤ by'.length) (hF : FitsR rows) (hfb : Fits by') (hl : LstR w.heap.size w a1 c1 rows) (hr : RowB w.heap.size w a2 by') :
    Calls Tryz.prog 13 #[.int .i64 q, .slice a1 rows.length c1, .slice a2 by'.length c2] w fun e w' => e = .returned (.slice (some ⟨w.heap.size, 0, none⟩) m m) ∧ ArrI w' w.heap.size 3 m (fun j => dtz q rows.length by' (pgc rows j)) ∧ Below w.heap.size w w' := by
  have hmx : Tryz.prog.follows .mixedOrders = true := by kernel_rfl
  have HF := hid hF
  have HFB := hid hfb
  have HL := hid hl
  have HR := hid hr
  have HW := hid hw
  obtain ⟨b0, o0, a0, c0, rfl, hb0, hc0, _⟩ := hl.row 0 (by omega)
  rw [hw 0 (by omega), Nat.add_zero] at hc0
  obtain ⟨n, hnn⟩ : ∃ n, n = rows.length := ⟨_, rfl⟩
  obtain ⟨nb, hnb⟩ : ∃ nb, nb = by'.length := ⟨_, rfl⟩
  rw [← hnn] at h1 hn hb ⊢
  rw [← hnb] at hb ⊢
  have HN := hid hnn
  have HNB := hid hnb
  obtain ⟨S, hS⟩ : ∃ S : Nat → Nat → Int, S = fun i j => dtz q i by' (pgc rows j) := ⟨_, rfl⟩
  have HS1 : Hid (∀ i j, i < n → (S i j + zat by' i * zat (rat rows i) j % (q : Int)) % (q : Int) = S (i + 1) j) := fun i j hi => by
    rw [hS]
    have := dtz_succ q i by' (pgc rows j)
    rw [pgc_at j (by omega)] at this
    exact this
  have HS2 : Hid (∀ i j, 0 ≤ S i j ∧ S i j < q) := fun i j => by rw [hS]; exact dtz_bounds q i by' (pgc rows j) h3
  have HS0 : Hid (S 0 = fun _ => 0) := by unfold Hid; rw [hS]; funext j; exact dtz_zero q _ _
  rw [show (fun j => dtz q n by' (pgc rows j)) = S n from by rw [hS]]
  have hmk2 := fun w => run_make_row' (P := Tryz.prog) 23 3 (.int .i64 0) 8 Tryz.underlying23 Tryz.infoInt rfl .i64 .i64 m (by omega) (by omega) w
  have h1' : (0 : Int) < (n : Int) := by omega
  clear hF hfb hl hr hw hnn hnb hS
  go_enter Tryz.func13, Tryz.ntmps13
  go_wp2_with fail
  go_loopw [8] (fun iv wr => ∃ i : Nat, i ≤ n ∧ iv = .int .i64 (i : Int) ∧ Hid (ArrI wr w.heap.size 3 m (S i) ∧ Below w.heap.size w wr)) (fun iv _ => n - (intOf iv).toNat)
  case atStart => exact ⟨0, by omega, rfl, by rw [HS0.out]; exact World.rowIs_made _ _ _ _, (Below.refl _ _).alloc (Nat.le_refl _) _⟩
  case round =>
    obtain ⟨i, hi, rfl, hI⟩ := hrel
    by_cases hlt : i < n
    · have hlt2 : (i : Int) < (n : Int) := by omega
      have hlt3 : (i : Int) < (nb : Int) := by omega
      have his : IntKind.i64.wrap ((i : Int) + 1) = (i : Int) + 1 := by rw [IntKind.wrap_i64]; omega
      obtain ⟨b1, o1, ak, ck, hae, hb1, hc1, hlk⟩ := HL.out.row i (by rw [← HN.out]; exact hlt)
      injection hae with hae
      injection hae with e1 e2
      subst e1 e2
      rw [HW.out i (by rw [← HN.out]; exact hlt)] at hc1
      obtain ⟨b2, o2, rfl, hb2, hx2⟩ := HR.out i (by rw [← HNB.out]; omega)
      have HLK := hid hlk.row
      have HFI := hid (HF.out i (by rw [← HN.out]; exact hlt)).1
      have HLI := hid (HW.out i (by rw [← HN.out]; exact hlt))
      obtain ⟨f1, f2⟩ := HFB.out.all i
      have HST : Hid (∀ j, (S i j + zat by' i * zat (rat rows i) j % (q : Int)) % (q : Int) = S (i + 1) j) := fun j => HS1.out i j hlt
      generalize zat by' i = bi at *
      generalize rat rows i = row at *
      clear hlk
      go_wp2_with fail
      go_loopw [9] (fun jv wj => ∃ j : Nat, j ≤ m ∧ jv = .int .i64 (j : Int) ∧ Hid (ArrI wj w.heap.size 3 m (fll (S (i + 1)) (S i) j) ∧ Below w.heap.size w wj)) (fun jv _ => m - (intOf jv).toNat)
      case atStart => exact ⟨0, by omega, rfl, by rw [fll_zero]; exact hI.out.1, hI.out.2⟩
      case round =>
        obtain ⟨j, hj, rfl, hJ⟩ := hrel
        by_cases hjt : j < m
        · have hjt2 : (j : Int) < (m : Int) := by omega
          have hjs : IntKind.i64.wrap ((j : Int) + 1) = (j : Int) + 1 := by rw [IntKind.wrap_i64]; omega
          rename_i wj _
          obtain ⟨b3, o3, rfl, hb3, hx3⟩ := HLK.out j (by rw [HLI.out]; exact hjt)
          have y1 := (hJ.out.2.cell (p := ⟨b0, o0 + i, none⟩) hb1).trans hc1
          have y2 := (hJ.out.2.cell (p := ⟨b2, o2 + i, none⟩) hb2).trans hx2
          have y3 := (hJ.out.2.cell (p := ⟨b3, o3 + j, none⟩) hb3).trans hx3
          obtain ⟨g1, g2⟩ := HFI.out.all j
          have HSJ := hid (HST.out j)
          have hsb := HS2.out i j
          have HMU := hid (fun W => rmul_any q bi (zat row j) W h3 h4 f1 f2 g1 g2)
          obtain ⟨t1, t2⟩ := emod_bounds (bi * zat row j) q h3
          generalize bi * zat row j % (q : Int) = t at *
          generalize zat row j = y at *
          have HAD := hid (fun W => radd_any q (S i j) t W h3 h4 (by omega) (by omega) (by omega) (by omega))
          rw [HSJ.out] at HAD
          have c1 := hJ.out.1.cell hjt
          rw [fll_at] at c1
          have yf := hJ.out.1.frozen j
          have HA2 := hid hJ.out.1.next
          have HBL := hid (hJ.out.2.setCell (p := ⟨w.heap.size, j, none⟩) (by simp) (.int .i64 (S (i + 1) j)))
          generalize S (i + 1) j = z at *
          generalize S i j = z0 at *
          clear hx2 hx3 HSJ
          go_wp2_with fail
          go_still_tail 13, hmx
          still_call (HMU.out _)
          repeat still_step
          refine wpStill_nil ?_
          go_wp2_with fail
          refine (HAD.out _).mono ?_
          rintro e w4 ⟨rfl, rfl⟩
          go_wp2_with fail
          go_roundw
          case rel => exact ⟨j + 1, by omega, by go_num, HA2.out, HBL.out.drew⟩
          case measure => simp [intOf]; omega
        · obtain rfl : j = m := by omega
          have hjt2 : ¬ (j : Int) < (j : Int) := by omega
          have HE : Hid (ArrI _ w.heap.size 3 j (S (i + 1)) ∧ Below w.heap.size w _) := ⟨hJ.out.1.congr (fun k hk => fll_all hk), hJ.out.2⟩
          clear hJ
          go_wp2_with fail
          go_roundw
          case rel => exact ⟨i + 1, by omega, by go_num, HE.out⟩
          case measure => simp [intOf]; omega
    · obtain rfl : i = n := by omega
      have hlt2 : ¬ (i : Int) < (i : Int) := by omega
      have HE := hid hI.out
      clear hI
      go_wp2_with fail
      go_ret
      exact ⟨rfl, HE.out⟩

end Go.Proofs.YtpgnabmkfkcogaaGreatDoor

namespace Go.Proofs.YtpgnabmkfkcogaaGreatDoor
open Go.RowKit

section
variable {P : Program} {ops : Array Oper} {Q : Exit → Act → World → Prop} {md : Region.Mode} {S : World → Prop}
theorem drop_atU {i : Nat} {oi : Oper} {rest : List Oper} (hl : ops.toList.drop i = oi :: rest) : ops[i]? = some oi := by
  have := congrArg (fun l => l[0]?) hl
  simpa [List.getElem?_drop] using this
theorem wpAnyH_takeU {i : Nat} {oi : Oper} {rest : List Oper} {v : Value} {fuel : Nat} {listed : Array Bool} {a : Act} {w : World} (hl : ops.toList.drop i = oi :: rest)
    (hs : Region.noSelect ops = true) (hf : Region.free md ops listed i = true) (hr : (Region.ready md ops listed).contains i = true)
    (hQ : ∀ c a w, Q (.panic c) (a.put oi.dst v) w → Q (.panic c) a w) (hw : Region.wanted oi (yielded ops a.tmps) = true) (hy : ∀ w, S w → (execOp a.eval oi).run P w = .ok (.value v) w) (hS : S w)
    (h : wpAnyH P md ops Q S fuel (listed.setIfInBounds i true) (a.put oi.dst v) w) : wpAnyH P md ops Q S (fuel + 1) listed a w :=
  wpAnyH_take (drop_atU hl) hs hf hr hQ (Or.inl ⟨hw, hy⟩) hS h
theorem AllReadyH.consU {fuel : Nat} {listed : Array Bool} {a : Act} {w : World} {i : Nat} {o : Oper} {rest : List Oper} {rs : List Nat} (hl : ops.toList.drop i = o :: rest)
    (h : ∀ K' : Act → World → Prop, Shut (∀ a w, S w → (S w → wpAnyH P md ops Q S fuel (listed.setIfInBounds i true) a w) → K' a w) → if Region.wanted o (yielded ops a.tmps) = true then Oper.wp P o a w K' Q else K' (a.put o.dst undef) w)
    (hs : AllReadyH P md ops Q S fuel listed a w rs) : AllReadyH P md ops Q S fuel listed a w (i :: rs) := AllReadyH.cons (drop_atU hl) h hs
end
end Go.Proofs.YtpgnabmkfkcogaaGreatDoor

namespace Go.Proofs.YtpgnabmkfkcogaaGreatDoor
open Go.RowKit

section
variable {P : Program} {ops : Array Oper} {Q : Exit → Act → World → Prop} {md : Region.Mode} {S : World → Prop}
end

end Go.Proofs.YtpgnabmkfkcogaaGreatDoor
