
import Derived.Test.YtlhjifpomchnfaaGreatDoorPnF
import Derived.Test.YtlhjifpomchnfaaGreatDoorPoAM
import Derived.Test.YtlhjifpomchnfaaGreatDoorTres
import Derived.Test.YtlhjifpomchnfaaGreatDoorPls
import Derived.StillTailTactics
set_option maxRecDepth 1000000
set_option maxHeartbeats 8000000
namespace Go.Proofs.YtlhjifpomchnfaaGreatDoor
open Go.RowKit
theorem results_cttP {P : Program} {fn : Func} {p t u : Tmp} {ty : TypeId} (h : fn.results = #[.cell p ty, .tmp t, .tmp u]) (tmps : Array Value) (w : World) (g : Nat) (tt : TypeId) (cs : Array Value) (fr : Nat × Nat) (d : TypeDesc)
  (hp : tmps.getD p undef = .pointer (some ⟨g, 0, none⟩)) (hg : w.heap[g]? = some (.cells cs tt fr))
  (hu : P.underlying ty = some d) (hd : (match d with | .struct _ | .array _ _ => true | _ => false) = true) (hi : (P.info? ty).map (·.size) = some cs.size) :
  (results fn tmps).run P w = .ok (.tuple #[.agg cs, tmps.getD t undef, tmps.getD u undef]) w := by
 have hp' : tmps[p]?.getD undef = .pointer (some ⟨g, 0, none⟩) := by simpa using hp
 simp [results, h, hp', asAddr, run_loadVar_row w g tt ty cs fr d hg hu hd hi]
def PoK (N n m : Nat) : Prop := ∃ v, v <= 12 /\ n = 2 ^ v /\ 2 ^ (v - v / 2) <= N / 2 /\ m = v
theorem popen_no (sp c b d n m cT c4 N : Nat) (asked r s : Int) (aT a4 : Option Addr) (w : World) (hD : DomAt w d b (N : Int) r s) (hN : N <= 65536) (hT : TabAt 2 Lib.deBruijn64tab w) (hn : n <= 9223372036854775807) (hno : ¬ PoK N n m) :
  Calls Tryz.prog 7 #[.pointer (some ⟨sp, 0, none⟩), .pointer (some ⟨c, 0, none⟩), .pointer (some ⟨d, 0, none⟩), .slice aT n cT, .slice a4 m c4, .int .i64 asked] w fun e w' => e = .returned (.tuple #[.agg #[.slice none 0 0, .slice none 0 0, .slice none 0 0, .slice none 0 0, .slice none 0 0, .slice none 0 0], .int .i64 0, .iface 90 (.int .i64 2)]) /\ Below w.heap.size w w' := by
 obtain ⟨W0, hW0⟩ : ∃ W0, W0 = w.alloc (.cells #[.slice none 0 0, .slice none 0 0, .slice none 0 0, .slice none 0 0, .slice none 0 0, .slice none 0 0] 33) := ⟨_, rfl⟩
 obtain ⟨R, hR⟩ : ∃ R, R = w.heap.size := ⟨_, rfl⟩
 have hb0 : Below w.heap.size w W0 := by rw [hW0]; exact (Below.refl _ _).alloc (Nat.le_refl _) _
 have hs0 : W0.heap[R]? = some (.cells #[.slice none 0 0, .slice none 0 0, .slice none 0 0, .slice none 0 0, .slice none 0 0, .slice none 0 0] 33 (0, 0)) := by rw [hW0, hR]; exact heap_alloc_new w _
 have HB0 := hid hb0
 have HS0 := hid hs0
 by_cases hno1 : ¬ (∃ v, v <= 12 /\ n = 2 ^ v /\ 2 ^ (v - v / 2) <= N / 2)
 ·have HSH : Hid (∃ x1 x2 x3 x4, Calls Tryz.prog 30 #[.pointer (some ⟨d, 0, none⟩), .slice aT n cT] W0 fun e w' => e = .returned (.tuple #[.agg #[.pointer x1, .pointer x2, .int .i64 x3, .int .i64 x4], .bool false]) /\ Below W0.heap.size W0 w') := by
   by_cases h : ∀ v, v <= 12 -> n ≠ 2 ^ v
   ·exact ⟨_, _, _, _, shapeOf_no d n cT aT W0 hn h (tabZ_below hT hb0)⟩
   ·have ⟨v, hv, hvn⟩ : ∃ v, v <= 12 /\ n = 2 ^ v := Classical.byContradiction fun hc => h fun v hv e => hc ⟨v, hv, e⟩
    subst hvn
    have h2 := shapeOf_yes d b v N cT r s aT W0 (hD.below hb0 hD.lt) hv hN (tabZ_below hT hb0)
    rw [decide_eq_false (fun hh => hno1 ⟨v, hv, rfl, hh⟩)] at h2
    exact ⟨_, _, _, _, h2⟩
  obtain ⟨x1, x2, x3, x4, hsh⟩ := HSH.out
  have HSX := hid hsh
  have HW0 := hid hW0
  have HRE := hid hR
  clear hsh HSH hD hT hno hno1 hb0 hs0 hW0 hR hn
  go_enter Tryz.func7, Tryz.ntmps7
  go_wp2_with fail
  rw [<- HW0.out, <- HRE.out]
  refine HSX.out.mono ?_
  rintro e w1 ⟨rfl, hb1⟩
  have HR1 := hid ((hb1.block R (Array.getElem?_eq_some_iff.1 HS0.out).1).trans HS0.out)
  have HB1 : Hid (Below w.heap.size w w1) := HB0.out.trans (hb1.mono HB0.out.size)
  obtain ⟨W2, hW2⟩ : ∃ W2, W2 = w1.alloc (.cells #[.pointer x1, .pointer x2, .int .i64 x3, .int .i64 x4] 87) := ⟨_, rfl⟩
  have hbw : Below w1.heap.size w1 W2 := by rw [hW2]; exact (Below.refl _ _).alloc (Nat.le_refl _) _
  have HR2 : Hid (W2.rowIs R 33 6 (sx (.slice none 0 0) (.slice none 0 0) (.slice none 0 0) (.slice none 0 0) (.slice none 0 0) (.slice none 0 0))) := sx_of ((hbw.block R (Array.getElem?_eq_some_iff.1 HR1.out).1).trans HR1.out)
  have HB2 : Hid (Below w.heap.size w W2) := HB1.out.trans (hbw.mono HB1.out.size)
  have HW2 := hid hW2
  have HRS : Hid (w.heap.size <= R) := by unfold Hid; have := HRE.out; omega
  obtain ⟨y0, y1, y2, y3, y4, y5⟩ := sx_facts HR2.out
  have f0 := HR2.out.frozen 0
  have f1 := HR2.out.frozen 1
  have f2 := HR2.out.frozen 2
  have f3 := HR2.out.frozen 3
  have f4 := HR2.out.frozen 4
  have f5 := HR2.out.frozen 5
  rw [hW2] at y0 y1 y2 y3 y4 y5 f0 f1 f2 f3 f4 f5
  clear hb1 hbw hW2 HSX HR1 HB1 HS0 HB0
  go_wp2_with fail
  try rw [<- HW2.out]
  refine bodyPost_ret (results_cttP rfl _ _ R 33 _ (0, 0) _ rfl (sx_arr (sx_six HR2.out _ _ _ _ _ _)) Tryz.underlying33 rfl (by kernel_rfl)) rfl ?_
  exact ⟨rfl, below_six HB2.out HRS.out _ _ _ _ _ _⟩
 ·obtain ⟨v, hv, rfl, hf⟩ := Classical.not_not.1 hno1
  have hmv : m ≠ v := fun e => hno ⟨v, hv, rfl, hf, e⟩
  have h2 := shapeOf_yes d b v N cT r s aT W0 (hD.below hb0 hD.lt) hv hN (tabZ_below hT hb0)
  rw [decide_eq_true hf] at h2
  obtain ⟨hi, hhi⟩ : ∃ hi, hi = v / 2 := ⟨_, rfl⟩
  obtain ⟨lo, hlo⟩ : ∃ lo, lo = v - v / 2 := ⟨_, rfl⟩
  have hSV : shV b d v = .agg #[.pointer (some ⟨b, 0, none⟩), .pointer (some ⟨d, 0, none⟩), .int .i64 (hi : Int), .int .i64 (lo : Int)] := by unfold shV; rw [hhi, hlo]
  rw [hSV] at h2
  have he : IntKind.i64.wrap ((hi : Int) + (lo : Int)) = (v : Int) := by rw [IntKind.wrap_i64]; omega
  have hmv2 : ((m : Int) != (v : Int)) = true := by simp; omega
  have hmv3 : ¬ (m : Int) = (v : Int) := by omega
  obtain ⟨L, hL⟩ : ∃ L, L = 2 ^ v := ⟨_, rfl⟩
  rw [<- hL] at h2 ⊢
  have HSX := hid h2
  have HW0 := hid hW0
  have HRE := hid hR
  clear h2 hD hT hno hno1 hb0 hs0 hW0 hR hn hL hSV hhi hlo hf hmv
  go_enter Tryz.func7, Tryz.ntmps7
  go_wp2_with fail
  rw [<- HW0.out, <- HRE.out]
  refine HSX.out.mono ?_
  rintro e w1 ⟨rfl, hb1⟩
  have HR1 := hid ((hb1.block R (Array.getElem?_eq_some_iff.1 HS0.out).1).trans HS0.out)
  have HB1 : Hid (Below w.heap.size w w1) := HB0.out.trans (hb1.mono HB0.out.size)
  obtain ⟨W2, hW2⟩ : ∃ W2, W2 = w1.alloc (.cells #[.pointer (some ⟨b, 0, none⟩), .pointer (some ⟨d, 0, none⟩), .int .i64 (hi : Int), .int .i64 (lo : Int)] 87) := ⟨_, rfl⟩
  obtain ⟨G, hG⟩ : ∃ G, G = w1.heap.size := ⟨_, rfl⟩
  have hbw : Below w1.heap.size w1 W2 := by rw [hW2]; exact (Below.refl _ _).alloc (Nat.le_refl _) _
  have hsG : W2.heap[G]? = some (.cells #[.pointer (some ⟨b, 0, none⟩), .pointer (some ⟨d, 0, none⟩), .int .i64 (hi : Int), .int .i64 (lo : Int)] 87 (0, 0)) := by rw [hW2, hG]; exact heap_alloc_new w1 _
  have g2 : W2.cell? ⟨G, 2, none⟩ = some (.int .i64 (hi : Int)) := by simp [World.cell?, hsG]
  have g3 : W2.cell? ⟨G, 3, none⟩ = some (.int .i64 (lo : Int)) := by simp [World.cell?, hsG]
  have HR2 : Hid (W2.rowIs R 33 6 (sx (.slice none 0 0) (.slice none 0 0) (.slice none 0 0) (.slice none 0 0) (.slice none 0 0) (.slice none 0 0))) := sx_of ((hbw.block R (Array.getElem?_eq_some_iff.1 HR1.out).1).trans HR1.out)
  have HB2 : Hid (Below w.heap.size w W2) := HB1.out.trans (hbw.mono HB1.out.size)
  have HW2 := hid hW2
  have HGE := hid hG
  have HRS : Hid (w.heap.size <= R) := by unfold Hid; have := HRE.out; omega
  rw [hG, hW2] at g2 g3
  obtain ⟨y0, y1, y2, y3, y4, y5⟩ := sx_facts HR2.out
  have f0 := HR2.out.frozen 0
  have f1 := HR2.out.frozen 1
  have f2 := HR2.out.frozen 2
  have f3 := HR2.out.frozen 3
  have f4 := HR2.out.frozen 4
  have f5 := HR2.out.frozen 5
  rw [hW2] at y0 y1 y2 y3 y4 y5 f0 f1 f2 f3 f4 f5
  clear hb1 hbw hW2 hG hsG HSX HR1 HB1 HS0 HB0
  go_wp2_with fail
  try rw [<- HW2.out]
  refine bodyPost_ret (results_cttP rfl _ _ R 33 _ (0, 0) _ rfl (sx_arr (sx_six HR2.out _ _ _ _ _ _)) Tryz.underlying33 rfl (by kernel_rfl)) rfl ?_
  exact ⟨rfl, below_six HB2.out HRS.out _ _ _ _ _ _⟩
theorem popen_ask (sp c b d v cT c4 N : Nat) (asked r s : Int) (aT a4 : Option Addr) (w : World) (hD : DomAt w d b (N : Int) r s) (hN : N <= 65536) (hT : TabAt 2 Lib.deBruijn64tab w) (hv : v <= 12) (hf : 2 ^ (v - v / 2) <= N / 2) (hno : ¬ (1 <= asked /\ asked <= 64)) :
  Calls Tryz.prog 7 #[.pointer (some ⟨sp, 0, none⟩), .pointer (some ⟨c, 0, none⟩), .pointer (some ⟨d, 0, none⟩), .slice aT (2 ^ v) cT, .slice a4 v c4, .int .i64 asked] w fun e w' => e = .returned (.tuple #[.agg #[.slice none 0 0, .slice none 0 0, .slice none 0 0, .slice none 0 0, .slice none 0 0, .slice none 0 0], .int .i64 0, .iface 90 (.int .i64 3)]) /\ Below w.heap.size w w' := by
 obtain ⟨W0, hW0⟩ : ∃ W0, W0 = w.alloc (.cells #[.slice none 0 0, .slice none 0 0, .slice none 0 0, .slice none 0 0, .slice none 0 0, .slice none 0 0] 33) := ⟨_, rfl⟩
 obtain ⟨R, hR⟩ : ∃ R, R = w.heap.size := ⟨_, rfl⟩
 have hb0 : Below w.heap.size w W0 := by rw [hW0]; exact (Below.refl _ _).alloc (Nat.le_refl _) _
 have hs0 : W0.heap[R]? = some (.cells #[.slice none 0 0, .slice none 0 0, .slice none 0 0, .slice none 0 0, .slice none 0 0, .slice none 0 0] 33 (0, 0)) := by rw [hW0, hR]; exact heap_alloc_new w _
 have HB0 := hid hb0
 have HS0 := hid hs0
 have h2 := shapeOf_yes d b v N cT r s aT W0 (hD.below hb0 hD.lt) hv hN (tabZ_below hT hb0)
 rw [decide_eq_true hf] at h2
 obtain ⟨hi, hhi⟩ : ∃ hi, hi = v / 2 := ⟨_, rfl⟩
 obtain ⟨lo, hlo⟩ : ∃ lo, lo = v - v / 2 := ⟨_, rfl⟩
 have hSV : shV b d v = .agg #[.pointer (some ⟨b, 0, none⟩), .pointer (some ⟨d, 0, none⟩), .int .i64 (hi : Int), .int .i64 (lo : Int)] := by unfold shV; rw [hhi, hlo]
 rw [hSV] at h2
 have he : IntKind.i64.wrap ((hi : Int) + (lo : Int)) = (v : Int) := by rw [IntKind.wrap_i64]; omega
 obtain ⟨L, hL⟩ : ∃ L, L = 2 ^ v := ⟨_, rfl⟩
 rw [<- hL] at h2
 have HSX := hid h2
 have HW0 := hid hW0
 have HRE := hid hR
 have HMA := hid (fun W => mayAsk_any asked W)
 rw [decide_eq_false hno] at HMA
 rw [<- hL]
 clear h2 hD hT hno hb0 hs0 hW0 hR hL hSV hhi hlo hf
 go_enter Tryz.func7, Tryz.ntmps7
 go_wp2_with fail
 rw [<- HW0.out, <- HRE.out]
 refine HSX.out.mono ?_
 rintro e w1 ⟨rfl, hb1⟩
 have HR1 := hid ((hb1.block R (Array.getElem?_eq_some_iff.1 HS0.out).1).trans HS0.out)
 have HB1 : Hid (Below w.heap.size w w1) := HB0.out.trans (hb1.mono HB0.out.size)
 obtain ⟨W2, hW2⟩ : ∃ W2, W2 = w1.alloc (.cells #[.pointer (some ⟨b, 0, none⟩), .pointer (some ⟨d, 0, none⟩), .int .i64 (hi : Int), .int .i64 (lo : Int)] 87) := ⟨_, rfl⟩
 obtain ⟨G, hG⟩ : ∃ G, G = w1.heap.size := ⟨_, rfl⟩
 have hbw : Below w1.heap.size w1 W2 := by rw [hW2]; exact (Below.refl _ _).alloc (Nat.le_refl _) _
 have hsG : W2.heap[G]? = some (.cells #[.pointer (some ⟨b, 0, none⟩), .pointer (some ⟨d, 0, none⟩), .int .i64 (hi : Int), .int .i64 (lo : Int)] 87 (0, 0)) := by rw [hW2, hG]; exact heap_alloc_new w1 _
 have HGC : Hid (∀ W : World, W.heap[G]? = some (.cells #[.pointer (some ⟨b, 0, none⟩), .pointer (some ⟨d, 0, none⟩), .int .i64 (hi : Int), .int .i64 (lo : Int)] 87 (0, 0)) -> W.cell? ⟨G, 0, none⟩ = some (.pointer (some ⟨b, 0, none⟩)) /\ W.cell? ⟨G, 1, none⟩ = some (.pointer (some ⟨d, 0, none⟩)) /\ W.cell? ⟨G, 2, none⟩ = some (.int .i64 (hi : Int)) /\ W.cell? ⟨G, 3, none⟩ = some (.int .i64 (lo : Int))) := fun W e1 =>
  ⟨by simp [World.cell?, e1], by simp [World.cell?, e1], by simp [World.cell?, e1], by simp [World.cell?, e1]⟩
 have HSG := hid hsG
 have HR2 : Hid (W2.heap[R]? = some (.cells #[.slice none 0 0, .slice none 0 0, .slice none 0 0, .slice none 0 0, .slice none 0 0, .slice none 0 0] 33 (0, 0))) := (hbw.block R (Array.getElem?_eq_some_iff.1 HR1.out).1).trans HR1.out
 have HB2 : Hid (Below w.heap.size w W2) := HB1.out.trans (hbw.mono HB1.out.size)
 have HW2 := hid hW2
 have HGE := hid hG
 have HRS : Hid (w.heap.size <= R /\ w.heap.size <= G /\ R ≠ G) := by
  unfold Hid
  have h1 := HRE.out
  have h2 := HB1.out.size
  have h3 := (Array.getElem?_eq_some_iff.1 HR1.out).1
  exact ⟨by omega, by omega, by omega⟩
 obtain ⟨x0, x1, x2, x3⟩ := HGC.out W2 HSG.out
 rw [hG, hW2] at x0 x1 x2 x3
 clear hb1 hbw hW2 hG hsG HSX HR1 HB1 HS0 HB0
 have HR6 := hid (sx_of HR2.out)
 obtain ⟨y0, y1, y2, y3, y4, y5⟩ := sx_facts HR6.out
 have f0 := HR6.out.frozen 0
 have f1 := HR6.out.frozen 1
 have f2 := HR6.out.frozen 2
 have f3 := HR6.out.frozen 3
 have f4 := HR6.out.frozen 4
 have f5 := HR6.out.frozen 5
 go_wp2_with fail
 rw [<- HW2.out]
 refine (HMA.out W2).mono ?_
 rintro e w' ⟨rfl, hw'⟩
 have hw'' := hw'.symm
 subst hw''
 clear hw' HMA x0 x1 x2 x3
 go_wp2_with fail
 refine bodyPost_ret (results_cttP rfl _ _ R 33 _ (0, 0) _ rfl (sx_arr (sx_six HR6.out _ _ _ _ _ _)) Tryz.underlying33 rfl (by kernel_rfl)) rfl ?_
 exact ⟨rfl, below_six HB2.out HRS.out.1 _ _ _ _ _ _⟩
theorem set_at {W : World} {g : Nat} {cs : Array Value} {t : TypeId} {f : Nat × Nat} (h : W.heap[g]? = some (.cells cs t f)) (i : Nat) (v : Value) : (W.setCell ⟨g, i, none⟩ v).heap[g]? = some (.cells (cs.setIfInBounds i v) t f) := by
 simp [World.setCell, Array.getElem?_modify, h]
theorem pch_copy {N0 q n c : Nat} {D D' : List Int} {W : World} (h : PCh N0 q n W c D) (xs sb dd : Nat) (ok : SpgOk q n dd) (hs : SpgAt W xs sb q n dd) (h1 : xs < N0) (h2 : sb < N0) : PCh N0 q n (((((W.setCell ⟨c, 0, none⟩ (.pointer (some ⟨xs, 0, none⟩))).setCell ⟨c, 1, none⟩ (.int .i64 (zat D' 0))).setCell ⟨c, 2, none⟩ (.int .i64 (zat D' 1))).setCell ⟨c, 3, none⟩ (.int .i64 (zat D' 2))).setCell ⟨c, 4, none⟩ (.int .i64 (zat D' 3))) c D' := by
 obtain ⟨s, b, d, _, _, _, _, hcN, hblk⟩ := h
 have hl := (Array.getElem?_eq_some_iff.1 hblk).1
 have hk : ∀ x, x ≠ c -> (((((W.setCell ⟨c, 0, none⟩ (.pointer (some ⟨xs, 0, none⟩))).setCell ⟨c, 1, none⟩ (.int .i64 (zat D' 0))).setCell ⟨c, 2, none⟩ (.int .i64 (zat D' 1))).setCell ⟨c, 3, none⟩ (.int .i64 (zat D' 2))).setCell ⟨c, 4, none⟩ (.int .i64 (zat D' 3))).heap[x]? = W.heap[x]? := fun x hx => by
  rw [Below.heap_setCell _ _ _ _ hx, Below.heap_setCell _ _ _ _ hx, Below.heap_setCell _ _ _ _ hx, Below.heap_setCell _ _ _ _ hx, Below.heap_setCell _ _ _ _ hx]
 refine ⟨xs, sb, dd, ok, hs.blocks (hk xs (by omega)) (hk sb (by omega)), h1, h2, hcN, ?_⟩
 exact set_at (set_at (set_at (set_at (set_at hblk 0 _) 1 _) 2 _) 3 _) 4 _
theorem popen_yes (N0 q n dd sb sp c b d v cT c4 N asked ap o : Nat) (s r : Int) (a4 : Option Addr) (t at' D : List Int) (w : World) (ok : SpgOk q n dd) (hP : PCh N0 q n w c D) (hD0 : Dig D)
  (RO : ∀ W, w.grownBy W (some c) -> SpgAt W sp sb q n dd /\ DO W q b d N r s /\ Lst W.heap.size W (some ⟨ap, o, none⟩) cT t /\ Lst W.heap.size W a4 c4 at') (hT : TabAt 2 Lib.deBruijn64tab w) (hv : v <= 12) (hat : at'.length = v) (ht : t.length = 2 ^ v) (hft : Fits t) (hfa : Fits at') (ha1 : 1 <= asked) (ha : asked <= 64) (hf : 2 ^ (v - v / 2) <= N / 2) :
  Calls Tryz.prog 7 #[.pointer (some ⟨sp, 0, none⟩), .pointer (some ⟨c, 0, none⟩), .pointer (some ⟨d, 0, none⟩), .slice (some ⟨ap, o, none⟩) t.length cT, .slice a4 at'.length c4, .int .i64 (asked : Int)] w fun e w' => ∃ (root mixed point : List Int) (D1 D2 : List Int) (pl : List Int) (u0 u1 u2 u3 u4 u5 : Value),
   (root = ctz q n s r N v t /\ D1 = pgD q n root at' D /\ mixed = opM q v (pwl q (zat D1 0) (2 ^ (v / 2))) t /\ point = opM q v (wgL q (at'.take (v / 2))) t /\ D2 = pgE q n mixed point D1 /\ pl = pgP q n N asked D2) /\
   e = .returned (.tuple #[.agg #[u0, u1, u2, u3, u4, u5], .int .i64 (dtz q (2 ^ (v - v / 2)) point (wgL q (at'.drop (v / 2)))), .nilIface]) /\
   (SlR w' root u0 /\ SlR w' mixed u1 /\ SlR w' point u2 /\ SlR w' pl u3 /\ OwnR 0 w' u4 (shw q (cll q s r N (rwl (2 ^ (v - v / 2)) (2 ^ (v / 2)) t)) pl) /\ OwnR 0 w' u5 (ndf q n N (cll q s r N (rwl (2 ^ (v - v / 2)) (2 ^ (v / 2)) t)) pl 0)) /\
   PCh N0 q n w' c (pld q n asked D2) /\ w.grownBy w' (some c) := by
 obtain ⟨_, hDO, _, hl4w⟩ := RO w (gb_refl _ _)
 have hD := hDO.da
 have h3 := hDO.h3
 have h4 := hDO.hm
 have hN := hDO.pos.2
 have hcl := hP.lt
 have hcg := hP.ge
 have hroom := hl4w.room
 rw [hat] at hroom
 obtain ⟨aT, haT⟩ : ∃ aT : Option Addr, aT = some ⟨ap, o, none⟩ := ⟨_, rfl⟩
 rw [<- haT] at RO
 obtain ⟨W0, hW0⟩ : ∃ W0, W0 = w.alloc (.cells #[.slice none 0 0, .slice none 0 0, .slice none 0 0, .slice none 0 0, .slice none 0 0, .slice none 0 0] 33) := ⟨_, rfl⟩
 obtain ⟨R, hR⟩ : ∃ R, R = w.heap.size := ⟨_, rfl⟩
 have hb0 : Below w.heap.size w W0 := by rw [hW0]; exact (Below.refl _ _).alloc (Nat.le_refl _) _
 have hs0 : W0.heap[R]? = some (.cells #[.slice none 0 0, .slice none 0 0, .slice none 0 0, .slice none 0 0, .slice none 0 0, .slice none 0 0] 33 (0, 0)) := by rw [hW0, hR]; exact heap_alloc_new w _
 have HB0 := hid hb0
 have HS0 := hid hs0
 have h2 := shapeOf_yes d b v N cT r s aT W0 (hD.below hb0 hD.lt) hv hN (tabZ_below hT hb0)
 rw [decide_eq_true hf] at h2
 obtain ⟨hi, hhi⟩ : ∃ hi, hi = v / 2 := ⟨_, rfl⟩
 obtain ⟨lo, hlo⟩ : ∃ lo, lo = v - v / 2 := ⟨_, rfl⟩
 have hSV : shV b d v = .agg #[.pointer (some ⟨b, 0, none⟩), .pointer (some ⟨d, 0, none⟩), .int .i64 (hi : Int), .int .i64 (lo : Int)] := by unfold shV; rw [hhi, hlo]
 rw [hSV] at h2
 have he : IntKind.i64.wrap ((hi : Int) + (lo : Int)) = (v : Int) := by rw [IntKind.wrap_i64]; omega
 obtain ⟨L, hL⟩ : ∃ L, L = 2 ^ v := ⟨_, rfl⟩
 rw [<- hL] at h2
 have HSX := hid h2
 have HW0 := hid hW0
 have HRE := hid hR
 have HMA := hid (fun W => mayAsk_any (asked : Int) W)
 rw [decide_eq_true (show 1 <= (asked : Int) /\ (asked : Int) <= 64 from ⟨by omega, by omega⟩)] at HMA
 have HOP : Hid (∀ (W : World) (c' : Nat), PCh N0 q n W c' D -> w.heap.size <= c' -> Below w.heap.size w W -> Calls Tryz.prog 33 #[.agg #[.pointer (some ⟨b, 0, none⟩), .pointer (some ⟨d, 0, none⟩), .int .i64 (hi : Int), .int .i64 (lo : Int)], .pointer (some ⟨sp, 0, none⟩), .pointer (some ⟨c', 0, none⟩), .slice aT L cT, .slice a4 v c4, .int .i64 (asked : Int)] W fun e w' => ∃ (root mixed point : List Int) (D1 D2 : List Int) (pl : List Int) (u0 u1 u2 u3 u4 u5 : Value), (root = ctz q n s r N v t /\ D1 = pgD q n root at' D /\ mixed = opM q v (pwl q (zat D1 0) (2 ^ (v / 2))) t /\ point = opM q v (wgL q (at'.take (v / 2))) t /\ D2 = pgE q n mixed point D1 /\ pl = pgP q n N asked D2) /\
   e = .returned (.tuple #[.agg #[u0, u1, u2, u3, u4, u5], .nilIface]) /\
   (SlR w' root u0 /\ SlR w' mixed u1 /\ SlR w' point u2 /\ SlR w' pl u3 /\ OwnR 0 w' u4 (shw q (cll q s r N (rwl (2 ^ (v - v / 2)) (2 ^ (v / 2)) t)) pl) /\ OwnR 0 w' u5 (ndf q n N (cll q s r N (rwl (2 ^ (v - v / 2)) (2 ^ (v / 2)) t)) pl 0)) /\
   PCh N0 q n w' c' (pld q n asked D2) /\ W.grownBy w' (some c')) := fun W c' k1 k2 k3 => by
  rw [haT, hL, <- hSV]
  exact popened_any N0 q n dd sb sp c' b d v cT c4 N asked ap o s r a4 t at' D W ok k1 hD0 (fun W' hW' => by rw [<- haT]; exact RO W' (gb_below (k3.trans (gb_to hW' k2 k3.size)))) hv hat ht hft hfa ha1 ha
 have hdr : (at'.drop hi).length = v - hi := by rw [List.length_drop, hat]
 have hlov : v - hi = lo := by rw [hlo, hhi]
 have hl12 : v - hi <= 12 := by omega
 have hiv : hi <= v := by omega
 have HX2 : Hid (∀ W, w.grownBy W (some c) -> Calls Tryz.prog 34 #[.agg #[.pointer (some ⟨b, 0, none⟩), .pointer (some ⟨d, 0, none⟩), .int .i64 (hi : Int), .int .i64 (lo : Int)], .slice (if c4 = hi then a4 else a4.map (fun x => x.add hi)) (v - hi) (c4 - hi)] W fun e w' => ∃ B0 B1, e = .returned (.func (.func 85) #[] #[.pointer (some ⟨B0, 0, none⟩), .pointer (some ⟨B1, 0, none⟩)]) /\ ExQ w' W.heap.size B0 B1 b (wgL q (at'.drop hi)) /\ Below W.heap.size W w') := fun W hW => by
  have hl4 := (RO W hW).2.2.2
  have h := extend_any q b (c4 - hi) (.pointer (some ⟨d, 0, none⟩)) (hi : Int) (lo : Int) (if c4 = hi then a4 else a4.map (fun x => x.add hi)) (at'.drop hi) W h3 h4 (RO W hW).2.1.hp (by rw [hdr]; omega) (fun j hj => by
   have := hfa.all (hi + j)
   simp only [zat, List.getElem?_drop] at this ⊢
   exact this) (fun k hk => by
   rw [hdr] at hk
   obtain ⟨b', o', e1, e2, e3⟩ := hl4.row (hi + k) (by rw [hat]; omega)
   refine ⟨b', o' + hi, ?_, e2, ?_⟩
   ·rw [if_neg (by omega), e1]
    simp only [Option.map_some, Addr.add]
    split
    ·next h0 => rw [h0, Nat.add_zero]
    ·rfl
   ·rw [show o' + hi + k = o' + (hi + k) from by omega, e3]
    simp only [zat, List.getElem?_drop])
  rw [hdr] at h
  exact h
 have HQ2 : Hid (∀ (W W' : World) (F0 F1 c2 : Nat) (a2 : Option Addr) (point : List Int) (L' : List Int), point = opM q v L' t -> w.grownBy W (some c) -> ExQ W W'.heap.size F0 F1 b (wgL q (at'.drop hi)) -> RowB W.heap.size W a2 point -> Calls Tryz.prog 85 #[.slice a2 point.length c2, .pointer (some ⟨F0, 0, none⟩), .pointer (some ⟨F1, 0, none⟩)] W fun e w' => e = .returned (.int .i64 (dtz q (2 ^ lo) point (wgL q (at'.drop hi)))) /\ Below W.heap.size W w') := fun W W' F0 F1 c2 a2 point L' hp hW hx hr => by
  have hpl : point.length = 2 ^ lo := by rw [hp, opM_len, hlo]
  have hlo12 : 2 ^ lo <= 4096 := by have := Nat.pow_le_pow_right (show 0 < 2 by omega) (show lo <= 12 by omega); omega
  have hpf : Fits point := by rw [hp]; exact smr_fits h4 h3 _ _ _ _
  have h := extq_any q b W'.heap.size F0 F1 c2 a2 point (wgL q (at'.drop hi)) W h3 h4 (RO W hW).2.1.hp hx (by rw [wgL_len, hdr, hlov, hpl]; exact Nat.le_refl _) (by rw [hpl]; omega) hpf (wgL_fits h4 h3 _) hr
  rw [hpl] at h ⊢
  exact h
 obtain ⟨AA, hAA⟩ : ∃ AA, AA = (if c4 = hi then a4 else a4.map (fun x => x.add hi)) := ⟨_, rfl⟩
 rw [<- hAA] at HX2
 have HAA := hid hAA
 have hic : hi <= c4 := by omega
 have hic2 : (hi : Int) <= (c4 : Int) := by omega
 have hiv2 : (hi : Int) <= (v : Int) := by omega
 have hi0 : (0 : Int) <= (hi : Int) := by omega
 have HPC := hid hP
 have HN : Hid (c < w.heap.size /\ N0 <= c) := ⟨hcl, hcg⟩
 have HHI := hid hhi
 have HLO := hid hlo
 rw [ht, hat, <- hL, <- haT]
 obtain ⟨Sx, hSx⟩ : ∃ Sx : List Int -> List (List Int), Sx = fun pl => shw q (cll q s r N (rwl (2 ^ (v - v / 2)) (2 ^ (v / 2)) t)) pl := ⟨_, rfl⟩
 obtain ⟨Nx, hNx⟩ : ∃ Nx : List Int -> List (List Int), Nx = fun pl => ndf q n N (cll q s r N (rwl (2 ^ (v - v / 2)) (2 ^ (v / 2)) t)) pl 0 := ⟨_, rfl⟩
 clear h2 hD hT hb0 hs0 hW0 hR hL hSV hf hAA hdr hlov hl12 hiv hic hhi hlo hP hD0 RO hDO hl4w hroom haT ok h3 h4 hN hcl hcg hv hft hfa ha1 ha ht hat
 go_enter Tryz.func7, Tryz.ntmps7
 go_wp2_with fail
 rw [<- HW0.out, <- HRE.out]
 refine HSX.out.mono ?_
 rintro e w1 ⟨rfl, hb1⟩
 have HR1 := hid ((hb1.block R (Array.getElem?_eq_some_iff.1 HS0.out).1).trans HS0.out)
 have HB1 : Hid (Below w.heap.size w w1) := HB0.out.trans (hb1.mono HB0.out.size)
 obtain ⟨W2, hW2⟩ : ∃ W2, W2 = w1.alloc (.cells #[.pointer (some ⟨b, 0, none⟩), .pointer (some ⟨d, 0, none⟩), .int .i64 (hi : Int), .int .i64 (lo : Int)] 87) := ⟨_, rfl⟩
 obtain ⟨G, hG⟩ : ∃ G, G = w1.heap.size := ⟨_, rfl⟩
 have hbw : Below w1.heap.size w1 W2 := by rw [hW2]; exact (Below.refl _ _).alloc (Nat.le_refl _) _
 have hsG : W2.heap[G]? = some (.cells #[.pointer (some ⟨b, 0, none⟩), .pointer (some ⟨d, 0, none⟩), .int .i64 (hi : Int), .int .i64 (lo : Int)] 87 (0, 0)) := by rw [hW2, hG]; exact heap_alloc_new w1 _
 have HGC : Hid (∀ W : World, W.heap[G]? = some (.cells #[.pointer (some ⟨b, 0, none⟩), .pointer (some ⟨d, 0, none⟩), .int .i64 (hi : Int), .int .i64 (lo : Int)] 87 (0, 0)) -> W.cell? ⟨G, 0, none⟩ = some (.pointer (some ⟨b, 0, none⟩)) /\ W.cell? ⟨G, 1, none⟩ = some (.pointer (some ⟨d, 0, none⟩)) /\ W.cell? ⟨G, 2, none⟩ = some (.int .i64 (hi : Int)) /\ W.cell? ⟨G, 3, none⟩ = some (.int .i64 (lo : Int))) := fun W e1 =>
  ⟨by simp [World.cell?, e1], by simp [World.cell?, e1], by simp [World.cell?, e1], by simp [World.cell?, e1]⟩
 have HSG := hid hsG
 have HR2 : Hid (W2.heap[R]? = some (.cells #[.slice none 0 0, .slice none 0 0, .slice none 0 0, .slice none 0 0, .slice none 0 0, .slice none 0 0] 33 (0, 0))) := (hbw.block R (Array.getElem?_eq_some_iff.1 HR1.out).1).trans HR1.out
 have HB2 : Hid (Below w.heap.size w W2) := HB1.out.trans (hbw.mono HB1.out.size)
 have HW2 := hid hW2
 have HGE := hid hG
 have HRS : Hid (w.heap.size <= R /\ w.heap.size <= G /\ R ≠ G) := by
  unfold Hid
  have h1 := HRE.out
  have h2 := HB1.out.size
  have h3 := (Array.getElem?_eq_some_iff.1 HR1.out).1
  exact ⟨by omega, by omega, by omega⟩
 obtain ⟨x0, x1, x2, x3⟩ := HGC.out W2 HSG.out
 rw [hG, hW2] at x0 x1 x2 x3
 clear hb1 hbw hW2 hG hsG HSX HR1 HB1 HS0 HB0
 go_wp2_with fail
 rw [<- HW2.out]
 try rw [<- HGE.out]
 refine (HMA.out W2).mono ?_
 rintro e w' ⟨rfl, hw'⟩
 have hw'' := hw'.symm
 subst hw''
 have HFK := hid (cfork_any N0 q n c D W2 (HPC.out.below HB2.out))
 clear hw' HMA x0 x1 x2 x3
 go_wp2_with fail
 refine HFK.out.mono ?_
 rintro e w3 ⟨c', rfl, hc', hP3, hb3⟩
 have HB3 : Hid (Below w.heap.size w w3) := HB2.out.trans (hb3.mono HB2.out.size)
 have HSG3 := hid ((hb3.block G (Array.getElem?_eq_some_iff.1 HSG.out).1).trans HSG.out)
 have HR3 := hid ((hb3.block R (Array.getElem?_eq_some_iff.1 HR2.out).1).trans HR2.out)
 have HC3 : Hid (w.heap.size <= c' /\ G ≠ c' /\ R ≠ c') := by
  have h1 := (Array.getElem?_eq_some_iff.1 HSG.out).1
  have h2 := (Array.getElem?_eq_some_iff.1 HR2.out).1
  have h5 := HB2.out.size
  exact ⟨by omega, by omega, by omega⟩
 have HOX := hid (HOP.out w3 c' hP3 HC3.out.1 HB3.out)
 obtain ⟨x0, x1, x2, x3⟩ := HGC.out w3 HSG3.out
 clear hc' hP3 hb3 HFK HOP HSG HR2 HB2 HW2 HGE
 go_wp2_with fail
 refine HOX.out.mono ?_
 rintro e w4 ⟨root, mixed, point, D1, D2, pl, u0, u1, u2, u3, u4, u5, hdef, rfl, ⟨hs0, hs1, hs2, hs3, hs4, hs5⟩, hc4, hg4⟩
 have HDF := hid hdef
 have HB4 : Hid (Below w.heap.size w w4) := HB3.out.trans (gb_to hg4 HC3.out.1 HB3.out.size)
 have HSG4 := hid ((gb_blk hg4 (Array.getElem?_eq_some_iff.1 HSG3.out).1 HC3.out.2.1).trans HSG3.out)
 have HR4 := hid ((gb_blk hg4 (Array.getElem?_eq_some_iff.1 HR3.out).1 HC3.out.2.2).trans HR3.out)
 obtain ⟨a0, c0, e0, _⟩ := hs0.lst
 obtain ⟨a1, c1, e1, _⟩ := hs1.lst
 obtain ⟨a2, c2, e2, _⟩ := hs2.lst
 obtain ⟨a3, c3, e3, _⟩ := hs3.lst
 obtain ⟨a5, c5, e5, _⟩ := hs4.lst
 obtain ⟨a6, c6, e6, _⟩ := hs5.lst
 subst e0 e1 e2 e3 e5 e6
 have HLS : Hid (∀ W, Below w4.heap.size w4 W -> SlR W root (.slice a0 root.length c0) /\ SlR W mixed (.slice a1 mixed.length c1) /\ SlR W point (.slice a2 point.length c2) /\ SlR W pl (.slice a3 pl.length c3) /\ OwnR 0 W (.slice a5 _ c5) _ /\ OwnR 0 W (.slice a6 _ c6) _) := fun W hW => ⟨hs0.keep hW, hs1.keep hW, hs2.keep hW, hs3.keep hW, hs4.keep hW, hs5.keep hW⟩
 obtain ⟨S4, hS4⟩ : ∃ S4, S4 = shw q (cll q s r N (rwl (2 ^ (v - v / 2)) (2 ^ (v / 2)) t)) pl := ⟨_, rfl⟩
 obtain ⟨S5, hS5⟩ : ∃ S5, S5 = ndf q n N (cll q s r N (rwl (2 ^ (v - v / 2)) (2 ^ (v / 2)) t)) pl 0 := ⟨_, rfl⟩
 rw [<- hS4, <- hS5] at HLS ⊢
 have HS45 : Hid (S4 = shw q (cll q s r N (rwl (2 ^ (v - v / 2)) (2 ^ (v / 2)) t)) pl /\ S5 = ndf q n N (cll q s r N (rwl (2 ^ (v - v / 2)) (2 ^ (v / 2)) t)) pl 0) := ⟨hS4, hS5⟩
 obtain ⟨D3, hD3⟩ : ∃ D3, D3 = pld q n asked D2 := ⟨_, rfl⟩
 rw [<- hD3] at hc4
 have HD3 := hid hD3
 have HC4 := hid hc4
 clear hdef hs0 hs1 hs2 hs3 hs4 hs5 hc4 hg4 hS4 hS5 hD3 HOX x0 x1 x2 x3 HSG3 HR3 HB3
 obtain ⟨n0, hn0⟩ : ∃ n0, n0 = root.length := ⟨_, rfl⟩
 obtain ⟨n1, hn1⟩ : ∃ n1, n1 = mixed.length := ⟨_, rfl⟩
 obtain ⟨n2, hn2⟩ : ∃ n2, n2 = point.length := ⟨_, rfl⟩
 obtain ⟨n3, hn3⟩ : ∃ n3, n3 = pl.length := ⟨_, rfl⟩
 obtain ⟨n5, hn5⟩ : ∃ n5, n5 = S4.length := ⟨_, rfl⟩
 obtain ⟨n6, hn6⟩ : ∃ n6, n6 = S5.length := ⟨_, rfl⟩
 rw [<- hn0, <- hn1, <- hn2, <- hn3, <- hn5, <- hn6] at HLS
 rw [<- hn0, <- hn1, <- hn2, <- hn3, <- hn5, <- hn6]
 have HN2 := hid hn2
 clear hn0 hn1 hn2 hn3 hn5 hn6
 obtain ⟨W5, hW5⟩ : ∃ W5, W5 = w4.alloc (.cells #[.slice a0 n0 c0, .slice a1 n1 c1, .slice a2 n2 c2, .slice a3 n3 c3, .slice a5 n5 c5, .slice a6 n6 c6] 33) := ⟨_, rfl⟩
 obtain ⟨P, hP'⟩ : ∃ P, P = w4.heap.size := ⟨_, rfl⟩
 have HB45 : Hid (Below w4.heap.size w4 W5) := by unfold Hid; rw [hW5]; exact (Below.refl _ _).alloc (Nat.le_refl _) _
 have HSP5 : Hid (W5.heap[P]? = some (.cells #[.slice a0 n0 c0, .slice a1 n1 c1, .slice a2 n2 c2, .slice a3 n3 c3, .slice a5 n5 c5, .slice a6 n6 c6] 33 (0, 0))) := by unfold Hid; rw [hW5, hP']; exact heap_alloc_new w4 _
 have HB5 : Hid (Below w.heap.size w W5) := HB4.out.trans (HB45.out.mono HB4.out.size)
 have HSG5 := hid ((HB45.out.block G (Array.getElem?_eq_some_iff.1 HSG4.out).1).trans HSG4.out)
 have HR5 := hid ((HB45.out.block R (Array.getElem?_eq_some_iff.1 HR4.out).1).trans HR4.out)
 have HNE : Hid (G ≠ c /\ R ≠ c /\ P ≠ c /\ R ≠ P /\ G ≠ P /\ w.heap.size <= R) := by
  have h1 := HRS.out
  have h2 := HN.out
  have h5 := HB4.out.size
  have h6 := (Array.getElem?_eq_some_iff.1 HSG4.out).1
  have h7 := (Array.getElem?_eq_some_iff.1 HR4.out).1
  exact ⟨by omega, by omega, by omega, by omega, by omega, by omega⟩
 have HP5 := hid (HPC.out.below HB5.out)
 obtain ⟨xs, xb, xd, xok, xsp, xl1, xl2, _, xblk⟩ := HC4.out.below HB45.out
 obtain ⟨ys, yb, yd, _, _, _, _, _, yblk⟩ := HP5.out
 have k0 := five0 xblk
 have k1 := five1 xblk
 have k2 := five2 xblk
 have k3 := five3 xblk
 have k4 := five4 xblk
 have m0 := five0 yblk
 have m1 := five1 yblk
 have m2 := five2 yblk
 have m3 := five3 yblk
 have m4 := five4 yblk
 have hfz : ∀ i, W5.frozen? ⟨c, i, none⟩ = false := fun i => by simp [World.frozen?, yblk]
 have z0 := hfz 0
 have z1 := hfz 1
 have z2 := hfz 2
 have z3 := hfz 3
 have z4 := hfz 4
 have HXS : Hid (SpgOk q n xd /\ SpgAt W5 xs xb q n xd /\ xs < N0 /\ xb < N0) := ⟨xok, xsp, xl1, xl2⟩
 have HW5 := hid hW5
 have HPE := hid hP'
 obtain ⟨e0, he0⟩ : ∃ e0, e0 = zat D3 0 := ⟨_, rfl⟩
 obtain ⟨e1, he1⟩ : ∃ e1, e1 = zat D3 1 := ⟨_, rfl⟩
 obtain ⟨e2, he2⟩ : ∃ e2, e2 = zat D3 2 := ⟨_, rfl⟩
 obtain ⟨e3, he3⟩ : ∃ e3, e3 = zat D3 3 := ⟨_, rfl⟩
 rw [<- he0] at k1
 rw [<- he1] at k2
 rw [<- he2] at k3
 rw [<- he3] at k4
 have HEE : Hid (e0 = zat D3 0 /\ e1 = zat D3 1 /\ e2 = zat D3 2 /\ e3 = zat D3 3) := ⟨he0, he1, he2, he3⟩
 rw [hW5] at k0 k1 k2 k3 k4 m0 m1 m2 m3 m4 z0 z1 z2 z3 z4
 clear xok xsp xl1 xl2 xblk yblk hfz hW5 hP' he0 he1 he2 he3
 obtain ⟨W6, hW6⟩ : ∃ W6, W6 = (((((W5.setCell ⟨c, 0, none⟩ (.pointer (some ⟨xs, 0, none⟩))).setCell ⟨c, 1, none⟩ (.int .i64 e0)).setCell ⟨c, 2, none⟩ (.int .i64 e1)).setCell ⟨c, 3, none⟩ (.int .i64 e2)).setCell ⟨c, 4, none⟩ (.int .i64 e3)) := ⟨_, rfl⟩
 have HP6 : Hid (PCh N0 q n W6 c D3) := by
  unfold Hid
  rw [hW6, HEE.out.1, HEE.out.2.1, HEE.out.2.2.1, HEE.out.2.2.2]
  exact pch_copy HP5.out xs xb xd HXS.out.1 HXS.out.2.1 HXS.out.2.2.1 HXS.out.2.2.2
 have HG56 : Hid (W5.grownBy W6 (some c)) := by
  unfold Hid
  rw [hW6]
  exact gb_setCell (gb_setCell (gb_setCell (gb_setCell (gb_setCell (gb_refl _ _) 0 _) 1 _) 2 _) 3 _) 4 _
 obtain ⟨W7, hW7⟩ : ∃ W7, W7 = W6.drew := ⟨_, rfl⟩
 have HB67 : Hid (Below W6.heap.size W6 W7) := by unfold Hid; rw [hW7]; exact (Below.refl _ _).drew
 have HG57 : Hid (W5.grownBy W7 (some c)) := gb_trans HG56.out (gb_below HB67.out)
 have HG7 : Hid (w.grownBy W7 (some c)) := gb_trans (gb_below HB5.out) HG57.out
 have HP7 : Hid (PCh N0 q n W7 c D3) := HP6.out.below HB67.out
 have HSG7 := hid ((gb_blk HG57.out (Array.getElem?_eq_some_iff.1 HSG5.out).1 HNE.out.1).trans HSG5.out)
 have HR7 := hid ((gb_blk HG57.out (Array.getElem?_eq_some_iff.1 HR5.out).1 HNE.out.2.1).trans HR5.out)
 have HSP7 := hid ((gb_blk HG57.out (Array.getElem?_eq_some_iff.1 HSP5.out).1 HNE.out.2.2.1).trans HSP5.out)
 have HL7 : Hid (SlR W7 root (.slice a0 n0 c0) /\ SlR W7 mixed (.slice a1 n1 c1) /\ SlR W7 point (.slice a2 n2 c2) /\ SlR W7 pl (.slice a3 n3 c3) /\ OwnR 0 W7 (.slice a5 n5 c5) S4 /\ OwnR 0 W7 (.slice a6 n6 c6) S5) := by
  obtain ⟨s0, s1, s2, s3, s4, s5⟩ := HLS.out W5 HB45.out
  exact ⟨s0.pstep HP5.out HG57.out, s1.pstep HP5.out HG57.out, s2.pstep HP5.out HG57.out, s3.pstep HP5.out HG57.out, s4.pstep HP5.out HG57.out, s5.pstep HP5.out HG57.out⟩
 have HW6 := hid hW6
 have HW7E := hid hW7
 have HPCX : Hid (∀ W : World, W.heap[P]? = some (.cells #[.slice a0 n0 c0, .slice a1 n1 c1, .slice a2 n2 c2, .slice a3 n3 c3, .slice a5 n5 c5, .slice a6 n6 c6] 33 (0, 0)) -> W.cell? ⟨P, 0, none⟩ = some (.slice a0 n0 c0) /\ W.cell? ⟨P, 1, none⟩ = some (.slice a1 n1 c1) /\ W.cell? ⟨P, 2, none⟩ = some (.slice a2 n2 c2) /\ W.cell? ⟨P, 3, none⟩ = some (.slice a3 n3 c3) /\ W.cell? ⟨P, 4, none⟩ = some (.slice a5 n5 c5) /\ W.cell? ⟨P, 5, none⟩ = some (.slice a6 n6 c6)) := fun W e1 =>
  ⟨by simp [World.cell?, e1], by simp [World.cell?, e1], by simp [World.cell?, e1], by simp [World.cell?, e1], by simp [World.cell?, e1], by simp [World.cell?, e1]⟩
 have HS11 : Hid (∀ W : World, Below W7.heap.size W7 W -> (W.cell? ⟨G, 0, none⟩ = some (.pointer (some ⟨b, 0, none⟩)) /\ W.cell? ⟨G, 1, none⟩ = some (.pointer (some ⟨d, 0, none⟩)) /\ W.cell? ⟨G, 2, none⟩ = some (.int .i64 (hi : Int)) /\ W.cell? ⟨G, 3, none⟩ = some (.int .i64 (lo : Int))) /\ (W.cell? ⟨P, 0, none⟩ = some (.slice a0 n0 c0) /\ W.cell? ⟨P, 1, none⟩ = some (.slice a1 n1 c1) /\ W.cell? ⟨P, 2, none⟩ = some (.slice a2 n2 c2) /\ W.cell? ⟨P, 3, none⟩ = some (.slice a3 n3 c3) /\ W.cell? ⟨P, 4, none⟩ = some (.slice a5 n5 c5) /\ W.cell? ⟨P, 5, none⟩ = some (.slice a6 n6 c6))) := fun W hW => ⟨HGC.out W ((hW.block G (Array.getElem?_eq_some_iff.1 HSG7.out).1).trans HSG7.out), HPCX.out W ((hW.block P (Array.getElem?_eq_some_iff.1 HSP7.out).1).trans HSP7.out)⟩
 have HS12 : Hid (∀ W0 : World, Below W7.heap.size W7 W0 -> (fun W : World => (W.cell? ⟨G, 0, none⟩ = some (.pointer (some ⟨b, 0, none⟩)) /\ W.cell? ⟨G, 1, none⟩ = some (.pointer (some ⟨d, 0, none⟩)) /\ W.cell? ⟨G, 2, none⟩ = some (.int .i64 (hi : Int)) /\ W.cell? ⟨G, 3, none⟩ = some (.int .i64 (lo : Int))) /\ (W.cell? ⟨P, 0, none⟩ = some (.slice a0 n0 c0) /\ W.cell? ⟨P, 1, none⟩ = some (.slice a1 n1 c1) /\ W.cell? ⟨P, 2, none⟩ = some (.slice a2 n2 c2) /\ W.cell? ⟨P, 3, none⟩ = some (.slice a3 n3 c3) /\ W.cell? ⟨P, 4, none⟩ = some (.slice a5 n5 c5) /\ W.cell? ⟨P, 5, none⟩ = some (.slice a6 n6 c6))) ((((((W0.setCell ⟨R, 0, none⟩ (.slice a0 n0 c0)).setCell ⟨R, 1, none⟩ (.slice a1 n1 c1)).setCell ⟨R, 2, none⟩ (.slice a2 n2 c2)).setCell ⟨R, 3, none⟩ (.slice a3 n3 c3)).setCell ⟨R, 4, none⟩ (.slice a5 n5 c5)).setCell ⟨R, 5, none⟩ (.slice a6 n6 c6))) := fun W hW => ⟨HGC.out _ ((blk_six HRS.out.2.2.symm _ _ _ _ _ _).trans ((hW.block G (Array.getElem?_eq_some_iff.1 HSG7.out).1).trans HSG7.out)), HPCX.out _ ((blk_six HNE.out.2.2.2.1.symm _ _ _ _ _ _).trans ((hW.block P (Array.getElem?_eq_some_iff.1 HSP7.out).1).trans HSP7.out))⟩
 have HRX : Hid (∀ W, Below W7.heap.size W7 W -> W.rowIs R 33 6 (sx (.slice none 0 0) (.slice none 0 0) (.slice none 0 0) (.slice none 0 0) (.slice none 0 0) (.slice none 0 0))) := fun W hW => sx_of ((hW.block R (Array.getElem?_eq_some_iff.1 HR7.out).1).trans HR7.out)
 obtain ⟨VV, hVV⟩ : ∃ VV, VV = dtz q (2 ^ lo) point (wgL q (at'.drop hi)) := ⟨_, rfl⟩
 have HQ3 : Hid (∀ (W : World) (F0 F1 : Nat), Below W7.heap.size W7 W -> ExQ W W7.heap.size F0 F1 b (wgL q (at'.drop hi)) -> Calls Tryz.prog 85 #[.slice a2 n2 c2, .pointer (some ⟨F0, 0, none⟩), .pointer (some ⟨F1, 0, none⟩)] W fun e w' => e = .returned (.int .i64 VV) /\ Below W.heap.size W w') := fun W F0 F1 hW hx => by
  obtain ⟨_, _, e1, hr⟩ := (HL7.out.2.2.1.keep hW).lst
  cases e1
  rw [hVV, HN2.out]
  exact HQ2.out W W7 F0 F1 c2 a2 point _ HDF.out.2.2.2.1 (gb_trans HG7.out (gb_below hW)) hx hr.row
 have HVV := hid hVV
 clear hW6 hW7 hVV HG56 HB67 HG57 HP6 HSG5 HR5 HSP5 HP5 HLS HQ2 HSG4 HR4 HB4 HB45 HXS HEE
 go_wp2_with fail
 rw [<- HW5.out, <- HW6.out]
 try rw [<- HPE.out]
 clear k0 k1 k2 k3 k4 m0 m1 m2 m3 m4 z0 z1 z2 z3 z4
 refine wp_region_held_drew (S := fun W => (W.cell? ⟨G, 0, none⟩ = some (.pointer (some ⟨b, 0, none⟩)) /\ W.cell? ⟨G, 1, none⟩ = some (.pointer (some ⟨d, 0, none⟩)) /\ W.cell? ⟨G, 2, none⟩ = some (.int .i64 (hi : Int)) /\ W.cell? ⟨G, 3, none⟩ = some (.int .i64 (lo : Int))) /\ (W.cell? ⟨P, 0, none⟩ = some (.slice a0 n0 c0) /\ W.cell? ⟨P, 1, none⟩ = some (.slice a1 n1 c1) /\ W.cell? ⟨P, 2, none⟩ = some (.slice a2 n2 c2) /\ W.cell? ⟨P, 3, none⟩ = some (.slice a3 n3 c3) /\ W.cell? ⟨P, 4, none⟩ = some (.slice a5 n5 c5) /\ W.cell? ⟨P, 5, none⟩ = some (.slice a6 n6 c6))) (by kernel_rfl) (by rw [<- HW7E.out]; exact HS11.out _ (Below.refl _ _)) (fun hHeld => ?_)
 rw [<- HW7E.out] at hHeld ⊢
 refine wpAnyH_takeU (i := 0) (v := .agg #[.slice a0 n0 c0, .slice a1 n1 c1, .slice a2 n2 c2, .slice a3 n3 c3, .slice a5 n5 c5, .slice a6 n6 c6]) rfl (by kernel_rfl) (by kernel_rfl) (by kernel_rfl) (fun _ _ _ h => h) (by rfl) (fun W hC => by (obtain ⟨⟨x0, x1, x2, x3⟩, y0, y1, y2, y3, y4, y5⟩ := hC); go_simp) hHeld ?_
 simp only [Act.put, List.setIfInBounds_toArray, List.set_cons_zero, List.set_cons_succ]
 refine wpAnyH_takeU (i := 1) (v := .agg #[.pointer (some ⟨b, 0, none⟩), .pointer (some ⟨d, 0, none⟩), .int .i64 (hi : Int), .int .i64 (lo : Int)]) rfl (by kernel_rfl) (by kernel_rfl) (by kernel_rfl) (fun _ _ _ h => h) (by rfl) (fun W hC => by (obtain ⟨⟨x0, x1, x2, x3⟩, y0, y1, y2, y3, y4, y5⟩ := hC); go_simp) hHeld ?_
 simp only [Act.put, List.setIfInBounds_toArray, List.set_cons_zero, List.set_cons_succ]
 refine wpAnyH_takeU (i := 2) (v := .slice a4 v c4) rfl (by kernel_rfl) (by kernel_rfl) (by kernel_rfl) (fun _ _ _ h => h) (by rfl) (fun W hC => by go_simp) hHeld ?_
 simp only [Act.put, List.setIfInBounds_toArray, List.set_cons_zero, List.set_cons_succ]
 refine wpAnyH_takeU (i := 3) (v := .pointer (some ⟨G, 2, none⟩)) rfl (by kernel_rfl) (by kernel_rfl) (by kernel_rfl) (fun _ _ _ h => h) (by rfl) (fun W hC => by go_simp) hHeld ?_
 simp only [Act.put, List.setIfInBounds_toArray, List.set_cons_zero, List.set_cons_succ]
 refine wpAnyH_takeU (i := 4) (v := .int .i64 (hi : Int)) rfl (by kernel_rfl) (by kernel_rfl) (by kernel_rfl) (fun _ _ _ h => h) (by rfl) (fun W hC => by (obtain ⟨⟨x0, x1, x2, x3⟩, y0, y1, y2, y3, y4, y5⟩ := hC); go_simp) hHeld ?_
 simp only [Act.put, List.setIfInBounds_toArray, List.set_cons_zero, List.set_cons_succ]
 refine wpAnyH_takeU (i := 5) (v := .slice AA (v - hi) (c4 - hi)) rfl (by kernel_rfl) (by kernel_rfl) (by kernel_rfl) (fun _ _ _ h => h) (by rfl) (fun W hC => by rw [HAA.out]; go_simp) hHeld ?_
 simp only [Act.put, List.setIfInBounds_toArray, List.set_cons_zero, List.set_cons_succ]
 refine wpAnyH_takeU (i := 7) (v := .pointer (some ⟨P, 2, none⟩)) rfl (by kernel_rfl) (by kernel_rfl) (by kernel_rfl) (fun _ _ _ h => h) (by rfl) (fun W hC => by go_simp) hHeld ?_
 simp only [Act.put, List.setIfInBounds_toArray, List.set_cons_zero, List.set_cons_succ]
 refine wpAnyH_takeU (i := 8) (v := .slice a2 n2 c2) rfl (by kernel_rfl) (by kernel_rfl) (by kernel_rfl) (fun _ _ _ h => h) (by rfl) (fun W hC => by (obtain ⟨⟨x0, x1, x2, x3⟩, y0, y1, y2, y3, y4, y5⟩ := hC); go_simp) hHeld ?_
 simp only [Act.put, List.setIfInBounds_toArray, List.set_cons_zero, List.set_cons_succ]
 refine wpAnyH_ready (rs := [6]) (by kernel_rfl) (by simp) ?_
 refine AllReadyH.consU rfl (fun K' hK' => ?_) AllReadyH.nil
 go_simp
 refine (HX2.out _ HG7.out).mono ?_
 rintro e w8 ⟨F0, F1, rfl, hx8, hb8⟩
 have HG8 := hid (gb_trans HG7.out (gb_below hb8))
 have HB8 := hid hb8
 have HQQ := hid (HQ3.out w8 F0 F1 HB8.out hx8)
 clear hx8 hb8
 refine hK'.out _ _ (HS11.out _ HB8.out) (fun hHeld => ?_)
 clear hK' K'
 refine wpAnyH_ready (rs := [9]) (by kernel_rfl) (by simp) ?_
 refine AllReadyH.consU rfl (fun K' hK' => ?_) AllReadyH.nil
 go_simp
 refine (HQQ.out).mono ?_
 rintro e w9 ⟨rfl, hb9⟩
 have HG9 := hid (gb_trans HG8.out (gb_below hb9))
 have HB9 := hid (HB8.out.trans (hb9.mono HB8.out.size))
 clear hb9
 refine hK'.out _ _ (HS11.out _ HB9.out) (fun hHeld => ?_)
 clear hK' K'
 refine wpAnyH_ready (rs := [10]) (by kernel_rfl) (by simp) ?_
 refine AllReadyH.consU rfl (fun K' hK' => ?_) AllReadyH.nil
 have HRR := hid (HRX.out w9 HB9.out)
 have f0 := HRR.out.frozen 0
 have f1 := HRR.out.frozen 1
 have f2 := HRR.out.frozen 2
 have f3 := HRR.out.frozen 3
 have f4 := HRR.out.frozen 4
 have f5 := HRR.out.frozen 5
 have t0 : w9.cell? ⟨R, 0, none⟩ = some (.slice none 0 0) := HRR.out.cell (i := 0) (by omega)
 have t1 : w9.cell? ⟨R, 1, none⟩ = some (.slice none 0 0) := HRR.out.cell (i := 1) (by omega)
 have t2 : w9.cell? ⟨R, 2, none⟩ = some (.slice none 0 0) := HRR.out.cell (i := 2) (by omega)
 have t3 : w9.cell? ⟨R, 3, none⟩ = some (.slice none 0 0) := HRR.out.cell (i := 3) (by omega)
 have t4 : w9.cell? ⟨R, 4, none⟩ = some (.slice none 0 0) := HRR.out.cell (i := 4) (by omega)
 have t5 : w9.cell? ⟨R, 5, none⟩ = some (.slice none 0 0) := HRR.out.cell (i := 5) (by omega)
 go_simp
 refine hK'.out _ _ (HS12.out w9 HB9.out) (fun hHeld => ?_)
 clear hK' K'
 refine wpAnyH_takeU (i := 11) (v := .int .i64 VV) rfl (by kernel_rfl) (by kernel_rfl) (by kernel_rfl) (fun _ _ _ h => h) (by rfl) (fun W hC => by go_simp) hHeld ?_
 simp only [Act.put, List.setIfInBounds_toArray, List.set_cons_zero, List.set_cons_succ]
 refine wpAnyH_takeU (i := 12) (v := .nilIface) rfl (by kernel_rfl) (by kernel_rfl) (by kernel_rfl) (fun _ _ _ h => h) (by rfl) (fun W hC => by go_simp) hHeld ?_
 simp only [Act.put, List.setIfInBounds_toArray, List.set_cons_zero, List.set_cons_succ]
 refine wpAnyH_done (by kernel_rfl) ?_ _
 go_wp2_with fail
 refine bodyPost_ret (results_cttP rfl _ _ R 33 _ (0, 0) _ rfl (sx_arr (sx_six HRR.out _ _ _ _ _ _)) Tryz.underlying33 rfl (by kernel_rfl)) rfl ?_
 have hF : AlS (sx (.slice none 0 0) (.slice none 0 0) (.slice none 0 0) (.slice none 0 0) (.slice none 0 0) (.slice none 0 0)) := (alS (isS _ _ _) (isS _ _ _) (isS _ _ _) (isS _ _ _) (isS _ _ _) (isS _ _ _))
 have hF' : AlS (sx (.slice a0 n0 c0) (.slice a1 n1 c1) (.slice a2 n2 c2) (.slice a3 n3 c3) (.slice a5 n5 c5) (.slice a6 n6 c6)) := (alS (isS _ _ _) (isS _ _ _) (isS _ _ _) (isS _ _ _) (isS _ _ _) (isS _ _ _))
 refine ⟨root, mixed, point, D1, D2, pl, .slice a0 n0 c0, .slice a1 n1 c1, .slice a2 n2 c2, .slice a3 n3 c3, .slice a5 n5 c5, .slice a6 n6 c6, HDF.out, ?_, ?_, ?_, ?_⟩
 ·rw [HVV.out, HLO.out, HHI.out]
  rfl
 ·obtain ⟨s0, s1, s2, s3, s4, s5⟩ := HL7.out
  rw [<- HS45.out.1, <- HS45.out.2]
  exact ⟨slr_six (s0.keep HB9.out) HRR.out hF hF', slr_six (s1.keep HB9.out) HRR.out hF hF', slr_six (s2.keep HB9.out) HRR.out hF hF', slr_six (s3.keep HB9.out) HRR.out hF hF', ownR_six (s4.keep HB9.out) HRR.out hF hF', ownR_six (s5.keep HB9.out) HRR.out hF hF'⟩
 ·rw [<- HD3.out]
  exact pch_six (HP7.out.below HB9.out) HRR.out (by have := HN.out; have := HNE.out.2.2.2.2.2; omega)
 ·exact gb_six HG9.out HNE.out.2.2.2.2.2 _ _ _ _ _ _
theorem openings_any (c1 c2 c3 c4 c5 c6 : Nat) (a1 a2 a3 a4 a5 a6 : Option Addr) (p1 p2 : List Int) (r1 r2 n1 n2 : List (List Int)) (w : World) (hx1 : p1.length <= 9223372036854775807) (hx2 : p2.length <= 9223372036854775807) (hx3 : r1.length <= 9223372036854775807) (hx4 : r2.length <= 9223372036854775807) (hx5 : n1.length <= 9223372036854775807) (hx6 : n2.length <= 9223372036854775807)
  (hf3 : ∀ k, k < r1.length -> (rat r1 k).length <= 9223372036854775807) (hf4 : ∀ k, k < r2.length -> (rat r2 k).length <= 9223372036854775807) (hf5 : ∀ k, k < n1.length -> (rat n1 k).length <= 9223372036854775807) (hf6 : ∀ k, k < n2.length -> (rat n2 k).length <= 9223372036854775807)
  (hl1 : RowB w.heap.size w a1 p1) (hl2 : RowB w.heap.size w a4 p2) (hl3 : LstR w.heap.size w a2 c2 r1) (hl4 : LstR w.heap.size w a5 c5 r2) (hl5 : LstR w.heap.size w a3 c3 n1) (hl6 : LstR w.heap.size w a6 c6 n2) :
  Calls Tryz.prog 39 #[.agg #[.slice a1 p1.length c1, .slice a2 r1.length c2, .slice a3 n1.length c3], .agg #[.slice a4 p2.length c4, .slice a5 r2.length c5, .slice a6 n2.length c6]] w fun e w' => e = .returned (.bool (decide (p1 = p2) && decide (r1 = r2) && decide (n1 = n2))) /\ Below w.heap.size w w' := by
 have HI : Hid (∀ W, Below w.heap.size w W -> Calls Tryz.prog 16 #[.slice a1 p1.length c1, .slice a4 p2.length c4] W fun e w' => e = .returned (.bool (decide (p1 = p2))) /\ ∃ n, w' = W.drewN n) := fun W h => ints_any p1 p2 _ _ W (rowZ_of_B c1 (hl1.below h)) (rowZ_of_B c4 (hl2.below h)) hx1 hx2
 have HR : Hid (∀ W, Below w.heap.size w W -> Calls Tryz.prog 91 #[.slice a2 r1.length c2, .slice a5 r2.length c5] W fun e w' => e = .returned (.bool (decide (r1 = r2))) /\ ∃ n, w' = W.drewN n) := fun W h => srows_any c2 c5 a2 a5 r1 r2 _ _ W hx3 hx4 hf3 hf4 (hl3.below h) (hl4.below h)
 have HN : Hid (∀ W, Below w.heap.size w W -> Calls Tryz.prog 91 #[.slice a3 n1.length c3, .slice a6 n2.length c6] W fun e w' => e = .returned (.bool (decide (n1 = n2))) /\ ∃ n, w' = W.drewN n) := fun W h => srows_any c3 c6 a3 a6 n1 n2 _ _ W hx5 hx6 hf5 hf6 (hl5.below h) (hl6.below h)
 clear hl1 hl2 hl3 hl4 hl5 hl6 hf3 hf4 hf5 hf6 hx1 hx2 hx3 hx4 hx5 hx6
 generalize decide (p1 = p2) = x at *
 generalize decide (r1 = r2) = y at *
 generalize decide (n1 = n2) = z at *
 generalize p1.length = l1 at *
 generalize p2.length = l4 at *
 generalize r1.length = l2 at *
 generalize r2.length = l5 at *
 generalize n1.length = l3 at *
 generalize n2.length = l6 at *
 go_enter Tryz.func39, Tryz.ntmps39
 go_wp2_with fail
 have e1 : ((w.alloc (.cells #[.slice a1 l1 c1, .slice a2 l2 c2, .slice a3 l3 c3] 31)).alloc (.cells #[.slice a4 l4 c4, .slice a5 l5 c5, .slice a6 l6 c6] 31)).cell? ⟨w.heap.size, 1, none⟩ = some (.slice a2 l2 c2) := by simp
 have e2 : ((w.alloc (.cells #[.slice a1 l1 c1, .slice a2 l2 c2, .slice a3 l3 c3] 31)).alloc (.cells #[.slice a4 l4 c4, .slice a5 l5 c5, .slice a6 l6 c6] 31)).cell? ⟨w.heap.size, 2, none⟩ = some (.slice a3 l3 c3) := by simp
 have e3 : ((w.alloc (.cells #[.slice a1 l1 c1, .slice a2 l2 c2, .slice a3 l3 c3] 31)).alloc (.cells #[.slice a4 l4 c4, .slice a5 l5 c5, .slice a6 l6 c6] 31)).cell? ⟨w.heap.size + 1, 1, none⟩ = some (.slice a5 l5 c5) := by simp
 have e4 : ((w.alloc (.cells #[.slice a1 l1 c1, .slice a2 l2 c2, .slice a3 l3 c3] 31)).alloc (.cells #[.slice a4 l4 c4, .slice a5 l5 c5, .slice a6 l6 c6] 31)).cell? ⟨w.heap.size + 1, 2, none⟩ = some (.slice a6 l6 c6) := by simp
 have HB0 : Hid (Below w.heap.size w ((w.alloc (.cells #[.slice a1 l1 c1, .slice a2 l2 c2, .slice a3 l3 c3] 31)).alloc (.cells #[.slice a4 l4 c4, .slice a5 l5 c5, .slice a6 l6 c6] 31))) := ((Below.refl _ _).alloc (Nat.le_refl _) _).alloc (by simp) _
 generalize (w.alloc (.cells #[.slice a1 l1 c1, .slice a2 l2 c2, .slice a3 l3 c3] 31)).alloc (.cells #[.slice a4 l4 c4, .slice a5 l5 c5, .slice a6 l6 c6] 31) = W0 at *
 refine (HI.out _ HB0.out).mono ?_
 rintro e w1 ⟨rfl, n1', rfl⟩
 have HB1 : Hid (Below w.heap.size w (W0.drewN n1')) := below_drewN HB0.out n1'
 have f1 : (W0.drewN n1').cell? ⟨w.heap.size, 1, none⟩ = some (.slice a2 l2 c2) := e1
 have f2 : (W0.drewN n1').cell? ⟨w.heap.size, 2, none⟩ = some (.slice a3 l3 c3) := e2
 have f3 : (W0.drewN n1').cell? ⟨w.heap.size + 1, 1, none⟩ = some (.slice a5 l5 c5) := e3
 have f4 : (W0.drewN n1').cell? ⟨w.heap.size + 1, 2, none⟩ = some (.slice a6 l6 c6) := e4
 generalize W0.drewN n1' = W1 at *
 clear e1 e2 e3 e4 HI HB0
 go_wp2_with fail
 refine (HR.out _ HB1.out).mono ?_
 rintro e w2 ⟨rfl, n2', rfl⟩
 have HB2 : Hid (Below w.heap.size w (W1.drewN n2')) := below_drewN HB1.out n2'
 have g2 : (W1.drewN n2').cell? ⟨w.heap.size, 2, none⟩ = some (.slice a3 l3 c3) := f2
 have g4 : (W1.drewN n2').cell? ⟨w.heap.size + 1, 2, none⟩ = some (.slice a6 l6 c6) := f4
 generalize W1.drewN n2' = W2 at *
 clear f1 f2 f3 f4 HR HB1
 go_wp2_with fail
 refine (HN.out _ HB2.out).mono ?_
 rintro e w3 ⟨rfl, n3', rfl⟩
 have HB3 : Hid (Below w.heap.size w (W2.drewN n3')) := below_drewN HB2.out n3'
 generalize W2.drewN n3' = W3 at *
 clear g2 g4 HN HB2
 cases x
 ·go_wp2_with fail
  go_ret
  exact ⟨rfl, HB3.out⟩
 ·cases y
  ·go_wp2_with fail
   go_ret
   exact ⟨rfl, HB3.out⟩
  ·cases z
   ·go_wp2_with fail
    go_ret
    exact ⟨rfl, HB3.out⟩
   ·go_wp2_with fail
    go_ret
    exact ⟨rfl, HB3.out⟩
end Go.Proofs.YtlhjifpomchnfaaGreatDoor
