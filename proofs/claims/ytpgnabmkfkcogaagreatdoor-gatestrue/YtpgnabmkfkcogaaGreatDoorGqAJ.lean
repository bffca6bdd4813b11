/- What package sums must answer; attestlaw4.plain, lives. Package gates: hasGates, faultOf. Pledges, plainly: columns, sums of rows, what a table that is 1 at one place extends to. -/
import Derived.Test.YtpgnabmkfkcogaaGreatDoorGqAI
import Derived.Test.YtpgnabmkfkcogaaGreatDoorPls
import Derived.Test.YtpgnabmkfkcogaaGreatDoorFld
import Derived.Shelf.Spec.TrailingZeros
import Derived.Lib.TrailingZeros
import Derived.Test.YtpgnabmkfkcogaaGreatDoorGqAA
import Derived.Test.YtpgnabmkfkcogaaGreatDoorGqAF
import Derived.Test.YtpgnabmkfkcogaaGreatDoorRefs
namespace Go.Proofs.YtpgnabmkfkcogaaGreatDoor
open Go.RowKit

/-- an error by its number -/
def errz (k : Int) : Value := if k = 0 then .nilIface else .iface 101 (.int .i64 k)
theorem errz_nil : errz 0 = .nilIface := rfl
theorem errz_some {k : Int} (h : k ≠ 0) : errz k = .iface 101 (.int .i64 k) := by unfold errz; rw [if_neg h]
/-- Extend: what is wrong; what it gives -/
def exe (t at' : List Int) : Int := if vrs t.length = (at'.length : Int) then 0 else 2
def exz (p : Nat) (t at' : List Int) : Int := if vrs t.length = (at'.length : Int) then Sum.ext (zat t) (zat at') at'.length % (p : Int) else 0
/-- the tables behind some draws -/
def tbs (p : Nat) (rows : List (List Int)) (drawn : List Int) : Nat → List (List Int)
  | 0 => rows
  | i + 1 => fixr p (tbs p rows drawn i) (zat drawn i)
/-- Make -/
def mke (p : Nat) (rows : List (List Int)) (drawn : List Int) : Int := if ovr rows = (drawn.length : Int) then (if rows.length < p then 0 else 3) else 2
def mkR (p : Nat) (rows : List (List Int)) (drawn : List Int) : List (List Int) := if mke p rows drawn = 0 then (List.range drawn.length).map (fun i => rndl p (tbs p rows drawn i)) else []
def mkF (p : Nat) (rows : List (List Int)) (drawn : List Int) : List Int := if mke p rows drawn = 0 then ls (fun k => zat (rat (tbs p rows drawn drawn.length) k) 0 % (p : Int)) rows.length else []

/-- a field, and lists that may be handed in -/
structure InF (p b : Nat) (W : World) : Prop where
  pr : Num.Prime p
  h3 : 3 ≤ p
  hm : p ≤ 2147483647
  cell : W.cell? ⟨b, 0, none⟩ = some (.int .i64 p)
theorem InF.below {p b : Nat} {W W' : World} (h : InF p b W) (e : Below W.heap.size W W') : InF p b W' := ⟨h.pr, h.h3, h.hm, (e.cell (p := ⟨b, 0, none⟩) (heap_lt h.cell)).trans h.cell⟩
/-- a field, and the table by which package bits counts last zeros -/
structure InT (p b : Nat) (W : World) : Prop extends InF p b W where
  tab : TabAt 2 Lib.deBruijn64tab W
theorem tabu_below {w w' : World} (h : TabAt 2 Lib.deBruijn64tab w) (hb : Below w.heap.size w w') : TabAt 2 Lib.deBruijn64tab w' :=
  fun j hj => (hb.cell (p := ⟨2, j, none⟩) (cell_lt (h j hj))).trans (h j hj)
theorem InT.below {p b : Nat} {W W' : World} (h : InT p b W) (e : Below W.heap.size W W') : InT p b W' := ⟨h.toInF.below e, tabu_below h.tab e⟩
structure InL (W : World) (a : Option Addr) (c : Nat) (l : List Int) : Prop where
  len : l.length ≤ 17592186043904
  fit : Fits l
  lst : Lst W.heap.size W a c l
theorem InL.below {W W' : World} {a : Option Addr} {c : Nat} {l : List Int} (h : InL W a c l) (e : Below W.heap.size W W') : InL W' a c l := ⟨h.len, h.fit, (h.lst.below e).mono e.size⟩
structure InR (W : World) (a : Option Addr) (c : Nat) (rows : List (List Int)) : Prop where
  len : rows.length ≤ 5864062014634
  lens : ∀ k, k < rows.length → (rat rows k).length ≤ 17592186043904
  fit : ∀ k, k < rows.length → Fits (rat rows k)
  lst : LstR W.heap.size W a c rows
theorem InR.below {W W' : World} {a : Option Addr} {c : Nat} {rows : List (List Int)} (h : InR W a c rows) (e : Below W.heap.size W W') : InR W' a c rows := ⟨h.len, h.lens, h.fit, (h.lst.below e).mono e.size⟩

/-! what package sums must answer -/
def ExtAs : Prop := ∀ (p b c1 c2 : Nat) (a1 a2 : Option Addr) (t at' : List Int) (W : World), InT p b W → InL W a1 c1 t → InL W a2 c2 at' →
    Calls Tryz.prog 27 #[.pointer (some ⟨b, 0, none⟩), .slice a1 t.length c1, .slice a2 at'.length c2] W fun e w' => e = .returned (.tuple #[.int .i64 (exz p t at'), errz (exe t at')]) ∧ Below W.heap.size W w'
end Go.Proofs.YtpgnabmkfkcogaaGreatDoor

namespace Go.Proofs.YtpgnabmkfkcogaaGreatDoor
open Go.RowKit

theorem shl_pow {v : Nat} (h : v ≤ 6) : wrap64 (2 ^ min v 64) = ((2 ^ v : Nat) : Int) := by
  rw [Nat.min_eq_left (by omega)]
  obtain rfl | rfl | rfl | rfl | rfl | rfl | rfl : v = 0 ∨ v = 1 ∨ v = 2 ∨ v = 3 ∨ v = 4 ∨ v = 5 ∨ v = 6 := by omega
  all_goals (unfold wrap64; decide)

theorem gtO_dec (n : Nat) (g : GatZ) : decide (GtO n g) = (decide (0 ≤ g.kind ∧ g.kind < 2) && (decide (0 ≤ g.a ∧ g.a < (n : Int)) && decide (0 ≤ g.b ∧ g.b < (n : Int)))) := by
  rw [Bool.eq_iff_iff, Bool.and_eq_true, Bool.and_eq_true, decide_eq_true_eq, decide_eq_true_eq, decide_eq_true_eq, decide_eq_true_eq]
  constructor
  · rintro ⟨⟨h1, h2⟩, h3, h4⟩
    exact ⟨⟨h1, by omega⟩, h3, h4⟩
  · rintro ⟨⟨h1, h2⟩, h3, h4⟩
    exact ⟨⟨h1, by omega⟩, h3, h4⟩

set_option maxRecDepth 100000 in
set_option maxHeartbeats 4000000 in
theorem hasGates_any (wide : Int) (cL : Nat) (aL : Option Addr) (lys : List (List GatZ)) (w : World) (hS : SzC wide lys) (hl : LstGG w.heap.size w aL cL lys) :
    Calls Tryz.prog 159 #[.agg #[.int .i64 wide, .slice aL lys.length cL]] w fun e w' => e = .returned (.bool (gtD wide lys)) ∧ Below w.heap.size w w' := by
  obtain ⟨v, hv⟩ : ∃ v : Nat, wide = (v : Int) := ⟨wide.toNat, by have := hS.1; omega⟩
  subst hv
  have hsh := shl_pow (v := v) (by have := hS.1; omega)
  have HX0 : Hid (2 ^ v = 2 ^ bnn (v : Int) lys 0) := rfl
  have HXK : Hid (∀ k, k < lys.length → (lyt lys k).length = 2 ^ bnn (v : Int) lys (k + 1)) := fun k hk => (hS.own hk).1
  have HXL : Hid (∀ k, k < lys.length → (lyt lys k).length ≤ 64) := fun k hk => by rw [(hS.own hk).1]; exact pow_6 (hS.bn (by omega)).2
  have HNO : Hid (∀ i k, i < lys.length → k < (lyt lys i).length → decide (GtO (2 ^ bnn (v : Int) lys i) (gat (lyt lys i) k)) = false → gtD (v : Int) lys = false) := fun i k hi hk hd => gtD_no (fun h => by have := h i hi k hk; rw [decide_eq_false_iff_not] at hd; exact hd this)
  have HYE : Hid ((∀ i, i < lys.length → ∀ k, k < (lyt lys i).length → GtO (2 ^ bnn (v : Int) lys i) (gat (lyt lys i) k)) → gtD (v : Int) lys = true) := fun h => gtD_yes h
  have HIX : Hid (∀ W, Below w.heap.size w W → LstGG w.heap.size W aL cL lys) := fun W hW => hl.below hW
  have hlen := hS.2.1.2
  obtain ⟨n, hn⟩ : ∃ n, n = lys.length := ⟨_, rfl⟩
  have HN := hid hn
  have HB0 : Hid (Below w.heap.size w (w.alloc (.cells #[.int .i64 (v : Int), .slice aL n cL] 69))) := (Below.refl _ _).alloc (Nat.le_refl _) _
  simp only [← hn] at HXK HXL HNO HYE hlen ⊢
  generalize gtD (v : Int) lys = D at *
  generalize 2 ^ v = X at *
  generalize bnn (v : Int) lys = bn at *
  clear hS hl hn
  go_enter Tryz.func159, Tryz.ntmps159
  go_wp2_with fail
  rw [hsh]
  clear hsh
  generalize w.alloc (.cells #[.int .i64 (v : Int), .slice aL n cL] 69) = W0 at *
  go_loopw [3, 5, 7, 14] (fun bv _ _ iv wr => ∃ k : Nat, k ≤ n ∧ iv = .int .i64 (k : Int) ∧ (∃ Y : Nat, bv = .int .i64 (Y : Int) ∧ Hid (Y = 2 ^ bn k)) ∧ Hid (Below w.heap.size w wr ∧ ∀ i, i < k → ∀ j, j < (lyt lys i).length → GtO (2 ^ bn i) (gat (lyt lys i) j))) (fun _ _ _ iv _ => n - (intOf iv).toNat)
  case atStart => exact ⟨0, by omega, rfl, ⟨X, rfl, HX0.out⟩, HB0.out, fun i hi => by omega⟩
  case round =>
    obtain ⟨k, hk, rfl, ⟨Y, rfl, HY⟩, hI⟩ := hrel
    obtain ⟨wo, hwo⟩ : ∃ wo, wo = wr := ⟨_, rfl⟩
    subst hwo
    by_cases hlt : k < n
    · have hlt2 : (k : Int) < (n : Int) := by omega
      have hks : IntKind.i64.wrap ((k : Int) + 1) = (k : Int) + 1 := by rw [IntKind.wrap_i64]; omega
      obtain ⟨b0, o0, ak, ck, rfl, hb0, hc, hg⟩ := (HIX.out wo hI.out.1).row k (by rw [← HN.out]; exact hlt)
      have HGK : Hid (∀ W, Below wo.heap.size wo W → LstG w.heap.size W ak ck (lyt lys k)) := fun W hW => hg.below (hW.mono hI.out.1.size)
      have HNK : Hid (∀ j, j < (lyt lys k).length → decide (GtO (2 ^ bn k) (gat (lyt lys k) j)) = false → D = false) := fun j hj => HNO.out k j hlt hj
      have HLK := HXL.out k hlt
      have HYK := hid (HXK.out k hlt)
      have HBO := hid hI.out.1
      have HPA := hid hI.out.2
      rw [← HY.out] at HNK
      clear hI hg
      obtain ⟨L, hL⟩ : ∃ L, L = (lyt lys k).length := ⟨_, rfl⟩
      have HLE := hid hL
      simp only [← hL] at HNK HLK HYK
      rw [← hL] at hc
      clear hL
      go_wp2_with fail
      go_loopw [7, 20] (fun _ iv wi => ∃ j : Nat, j ≤ L ∧ iv = .int .i64 (j : Int) ∧ Hid (Below wo.heap.size wo wi ∧ ∀ i, i < j → GtO Y (gat (lyt lys k) i))) (fun _ iv _ => L - (intOf iv).toNat)
      case atStart => exact ⟨0, by omega, rfl, Below.refl _ _, fun i hi => by omega⟩
      case round =>
        obtain ⟨j, hj, rfl, hJ⟩ := hrel
        by_cases hjt : j < L
        · have hjt2 : (j : Int) < (L : Int) := by omega
          have hjs : IntKind.i64.wrap ((j : Int) + 1) = (j : Int) + 1 := by rw [IntKind.wrap_i64]; omega
          obtain ⟨b1, o1, rfl, hb1, g0, g1, g2⟩ := (HGK.out wr hJ.out.1).row j (by rw [← HLE.out]; exact hjt)
          have HDE := hid (gtO_dec Y (gat (lyt lys k) j))
          have HNJ := hid (HNK.out j hjt)
          have HJ2 : Hid (GtO Y (gat (lyt lys k) j) → ∀ i, i < j + 1 → GtO Y (gat (lyt lys k) i)) := fun h i hi => by
            by_cases e : i = j
            · rw [e]; exact h
            · exact hJ.out.2 i (by omega)
          obtain ⟨W2, hW2⟩ : ∃ W2, W2 = wr.alloc (.cells #[.int .i64 (gat (lyt lys k) j).kind, .int .i64 (gat (lyt lys k) j).a, .int .i64 (gat (lyt lys k) j).b] 85) := ⟨_, rfl⟩
          obtain ⟨hb2, hs2, hz2⟩ := own_blk hW2
          have HB2 : Hid (Below wo.heap.size wo W2) := hJ.out.1.trans (hb2.mono hJ.out.1.size)
          have HBK := hid (isBelow_any (gat (lyt lys k) j).kind 2 W2)
          have HBA := hid (isBelow_any (gat (lyt lys k) j).a (Y : Int) W2)
          have HBB := hid (isBelow_any (gat (lyt lys k) j).b (Y : Int) W2)
          generalize gat (lyt lys k) j = g at *
          obtain ⟨B, hB⟩ : ∃ B, B = wr.heap.size := ⟨_, rfl⟩
          have HR := hid hB
          rw [← hB] at hs2
          have c0 : W2.cell? ⟨B, 0, none⟩ = some (.int .i64 g.kind) := by simp [World.cell?, hs2]
          have c1 : W2.cell? ⟨B, 1, none⟩ = some (.int .i64 g.a) := by simp [World.cell?, hs2]
          have c2 : W2.cell? ⟨B, 2, none⟩ = some (.int .i64 g.b) := by simp [World.cell?, hs2]
          have HEW : Hid (Below w.heap.size w W2) := HBO.out.trans (HB2.out.mono HBO.out.size)
          clear hJ hb2 hz2 hs2 hB
          by_cases q0 : 0 ≤ g.kind ∧ g.kind < 2
          · rw [decide_eq_true q0] at HDE HBK
            by_cases q1 : 0 ≤ g.a ∧ g.a < (Y : Int)
            · rw [decide_eq_true q1] at HDE HBA
              by_cases q2 : 0 ≤ g.b ∧ g.b < (Y : Int)
              · rw [decide_eq_true q2] at HDE HBB
                have HE := hid (HJ2.out (of_decide_eq_true (HDE.out.trans rfl)))
                clear q0 q1 q2
                generalize g.kind = xk at *
                generalize g.a = xa at *
                generalize g.b = xb at *
                clear HDE HNJ HJ2
                go_wp2_with fail
                rw [← hW2, ← HR.out]
                clear hW2 g0 g1 g2
                refine HBK.out.mono ?_
                rintro e w1 ⟨rfl, hw⟩
                have hw1 := hw.symm
                subst hw1
                clear hw
                go_wp2_with fail
                refine HBA.out.mono ?_
                rintro e w1 ⟨rfl, hw⟩
                have hw1 := hw.symm
                subst hw1
                clear hw
                go_wp2_with fail
                refine HBB.out.mono ?_
                rintro e w1 ⟨rfl, hw⟩
                have hw1 := hw.symm
                subst hw1
                clear hw
                go_wp2_with fail
                go_roundw
                case rel => exact ⟨j + 1, by omega, by go_num, HB2.out, HE.out⟩
                case measure => simp [intOf]; omega
              · rw [decide_eq_false q2] at HDE HBB
                have HE : Hid (D = false ∧ Below w.heap.size w W2) := ⟨HNJ.out (HDE.out.trans rfl), HEW.out⟩
                clear q0 q1 q2
                generalize g.kind = xk at *
                generalize g.a = xa at *
                generalize g.b = xb at *
                clear HDE HNJ HJ2
                go_wp2_with fail
                rw [← hW2, ← HR.out]
                clear hW2 g0 g1 g2
                refine HBK.out.mono ?_
                rintro e w1 ⟨rfl, hw⟩
                have hw1 := hw.symm
                subst hw1
                clear hw
                go_wp2_with fail
                refine HBA.out.mono ?_
                rintro e w1 ⟨rfl, hw⟩
                have hw1 := hw.symm
                subst hw1
                clear hw
                go_wp2_with fail
                refine HBB.out.mono ?_
                rintro e w1 ⟨rfl, hw⟩
                have hw1 := hw.symm
                subst hw1
                clear hw
                go_wp2_with fail
                go_ret
                exact ⟨by rw [HE.out.1]; rfl, HE.out.2⟩
            · rw [decide_eq_false q1] at HDE HBA
              have HE : Hid (D = false ∧ Below w.heap.size w W2) := ⟨HNJ.out (HDE.out.trans rfl), HEW.out⟩
              clear q0 q1
              generalize g.kind = xk at *
              generalize g.a = xa at *
              generalize g.b = xb at *
              clear HDE HNJ HJ2
              go_wp2_with fail
              rw [← hW2, ← HR.out]
              clear hW2 g0 g1 g2
              refine HBK.out.mono ?_
              rintro e w1 ⟨rfl, hw⟩
              have hw1 := hw.symm
              subst hw1
              clear hw
              go_wp2_with fail
              refine HBA.out.mono ?_
              rintro e w1 ⟨rfl, hw⟩
              have hw1 := hw.symm
              subst hw1
              clear hw
              go_wp2_with fail
              go_ret
              exact ⟨by rw [HE.out.1]; rfl, HE.out.2⟩
          · rw [decide_eq_false q0] at HDE HBK
            have HE : Hid (D = false ∧ Below w.heap.size w W2) := ⟨HNJ.out (HDE.out.trans rfl), HEW.out⟩
            clear q0
            generalize g.kind = xk at *
            generalize g.a = xa at *
            generalize g.b = xb at *
            clear HDE HNJ HJ2
            go_wp2_with fail
            rw [← hW2, ← HR.out]
            clear hW2 g0 g1 g2
            refine HBK.out.mono ?_
            rintro e w1 ⟨rfl, hw⟩
            have hw1 := hw.symm
            subst hw1
            clear hw
            go_wp2_with fail
            go_ret
            exact ⟨by rw [HE.out.1]; rfl, HE.out.2⟩
        · obtain rfl : j = L := by omega
          have hjt2 : ¬ (j : Int) < (j : Int) := by omega
          have HE : Hid (Below w.heap.size w wr ∧ ∀ i, i < k + 1 → ∀ j, j < (lyt lys i).length → GtO (2 ^ bn i) (gat (lyt lys i) j)) := ⟨HBO.out.trans (hJ.out.1.mono HBO.out.size), fun i hi q hq => by
            by_cases e : i = k
            · subst e
              rw [← HY.out]
              exact hJ.out.2 q (by rw [HLE.out]; exact hq)
            · exact HPA.out i (by omega) q hq⟩
          clear hJ
          go_wp2_with fail
          go_roundw
          case rel => exact ⟨k + 1, by omega, by go_num, ⟨j, rfl, HYK.out⟩, HE.out⟩
          case measure => simp [intOf]; omega
    · obtain rfl : k = n := by omega
      have hlt2 : ¬ (k : Int) < (k : Int) := by omega
      have HE : Hid (D = true ∧ Below w.heap.size w wo) := ⟨HYE.out (fun i hi j hj => hI.out.2 i hi j hj), hI.out.1⟩
      clear hI
      go_wp2_with fail
      go_ret
      exact ⟨by rw [HE.out.1]; rfl, HE.out.2⟩

set_option maxRecDepth 100000 in
set_option maxHeartbeats 1000000 in
theorem faultOf_any (wide : Int) (cL : Nat) (aL : Option Addr) (lys : List (List GatZ)) (w : World) (hB : CirB lys) (hl : LstGG w.heap.size w aL cL lys) :
    Calls Tryz.prog 91 #[.agg #[.int .i64 wide, .slice aL lys.length cL]] w fun e w' => e = .returned (errz (flt wide lys)) ∧ Below w.heap.size w w' := by
  obtain ⟨W0, hW0⟩ : ∃ W0, W0 = w.alloc (.cells #[.int .i64 wide, .slice aL lys.length cL] 69) := ⟨_, rfl⟩
  obtain ⟨hb0, hs0, hz0⟩ := own_blk hW0
  obtain ⟨G, hG⟩ : ∃ G, G = w.heap.size := ⟨_, rfl⟩
  rw [← hG] at hs0
  have HC : Hid (∀ W, Below W0.heap.size W0 W → W.cell? ⟨G, 0, none⟩ = some (.int .i64 wide) ∧ W.cell? ⟨G, 1, none⟩ = some (.slice aL lys.length cL)) := fun W hW => by
    have e1 := (hW.block G (Array.getElem?_eq_some_iff.1 hs0).1).trans hs0
    exact ⟨by simp [World.cell?, e1], by simp [World.cell?, e1]⟩
  have HSI := hid (hasSizes_any wide cL aL lys W0 hB (hl.step hb0))
  have HGA : Hid (SzC wide lys → ∀ W, Below W0.heap.size W0 W → Calls Tryz.prog 159 #[.agg #[.int .i64 wide, .slice aL lys.length cL]] W fun e w' => e = .returned (.bool (gtD wide lys)) ∧ Below W.heap.size W w') := fun h W hW => hasGates_any wide cL aL lys W h ((hl.step hb0).step hW)
  have HB0 := hid hb0
  have HWG := hid hW0
  have HG := hid hG
  obtain ⟨c0, c1⟩ := HC.out W0 (Below.refl _ _)
  by_cases hS : SzC wide lys
  · rw [szD_yes hS] at HSI
    have HGB := hid (HGA.out hS)
    have HFD : Hid (errz (flt wide lys) = if gtD wide lys then .nilIface else .iface 101 (.int .i64 3)) := by
      unfold Hid
      by_cases hg : GtC wide lys
      · rw [flt_none hS hg, gtD_yes hg]; rfl
      · rw [flt_range hS hg, gtD_no hg]; rfl
    generalize errz (flt wide lys) = V at *
    generalize gtD wide lys = D at *
    generalize lys.length = n at *
    clear HGA hS hl hB hb0 hs0 hz0 hW0 hG
    go_enter Tryz.func91, Tryz.ntmps91
    go_wp2_with fail
    rw [← HG.out, ← HWG.out]
    refine HSI.out.mono ?_
    rintro e w1 ⟨rfl, hb1⟩
    have HGC := hid (HGB.out w1 hb1)
    obtain ⟨d0, d1⟩ := HC.out w1 hb1
    have HB1 : Hid (Below w.heap.size w w1) := HB0.out.trans (hb1.mono HB0.out.size)
    clear hb1
    go_wp2_with fail
    refine HGC.out.mono ?_
    rintro e w2 ⟨rfl, hb2⟩
    have HB2 : Hid (Below w.heap.size w w2) := HB1.out.trans (hb2.mono HB1.out.size)
    clear hb2
    cases D with
    | true =>
      go_wp2_with fail
      go_ret
      exact ⟨by rw [HFD.out]; rfl, HB2.out⟩
    | false =>
      go_wp2_with fail
      go_ret
      exact ⟨by rw [HFD.out]; rfl, HB2.out⟩
  · rw [szD_no hS] at HSI
    have HFD : Hid (errz (flt wide lys) = .iface 101 (.int .i64 2)) := by unfold Hid; rw [flt_size hS]; rfl
    generalize errz (flt wide lys) = V at *
    generalize lys.length = n at *
    clear HGA hS hl hB hb0 hs0 hz0 hW0 hG
    go_enter Tryz.func91, Tryz.ntmps91
    go_wp2_with fail
    rw [← HG.out, ← HWG.out]
    refine HSI.out.mono ?_
    rintro e w1 ⟨rfl, hb1⟩
    have HB1 : Hid (Below w.heap.size w w1) := HB0.out.trans (hb1.mono HB0.out.size)
    clear hb1
    go_wp2_with fail
    go_ret
    exact ⟨by rw [HFD.out]; rfl, HB1.out⟩

end Go.Proofs.YtpgnabmkfkcogaaGreatDoor

namespace Go.Proofs.YtpgnabmkfkcogaaGreatDoor
open Go.RowKit

theorem ps_sm (f : Nat → Int) (x : Int) (n : Nat) : Pol.ps f x n = Dom.sm (fun i => f i * x ^ i) n := by
  induction n with
  | zero => rfl
  | succ n ih => simp only [Pol.ps, Dom.sm]; rw [ih]
theorem emod_of_dvd {p : Nat} {a b : Int} (h : (p : Int) ∣ a - b) : a % (p : Int) = b % (p : Int) := by
  have := Int.emod_eq_emod_iff_emod_sub_eq_zero (n := (p : Int)) (m := a) (k := b)
  exact this.2 (Int.emod_eq_zero_of_dvd h)
theorem prz_front (f : Nat → Int) (n : Nat) : Sum.prz f (n + 1) = f 0 * Sum.prz (fun k => f (k + 1)) n := by
  induction n with
  | zero => simp [Sum.prz]
  | succ n ih =>
    rw [Sum.prz, ih, Sum.prz]
    grind
end Go.Proofs.YtpgnabmkfkcogaaGreatDoor
