/- Package gates: levelOf. Package gates: what the gates of a layer are. -/
import Derived.Test.YtaapbopcfpihbabDoorGcAJ
import Derived.Test.YtaapbopcfpihbabDoorTres
import Derived.Test.YtaapbopcfpihbabDoorGcAL
namespace Go.Proofs.YtaapbopcfpihbabDoor
open Go.RowKit

set_option maxRecDepth 100000 in
set_option maxHeartbeats 1000000 in
theorem levelOf_any (b i cL : Nat) (wide : Int) (aL : Option Addr) (lys : List (List GatZ)) (w : World) (hS : SzC wide lys) (hi : i < lys.length) (hl : LstGG w.heap.size w aL cL lys) (hT : TabAt 2 Lib.deBruijn64tab w) :
    Calls Tryd.prog 16 #[.pointer (some ⟨b, 0, none⟩), .agg #[.int .i64 wide, .slice aL lys.length cL], .int .i64 (i : Int)] w fun e w' => ∃ ag cg, e = .returned (.agg #[.pointer (some ⟨b, 0, none⟩), .slice ag (lyt lys i).length cg, .int .i64 (bnn wide lys i : Int)]) ∧ LstG w.heap.size w ag cg (lyt lys i) ∧ Below w.heap.size w w' := by
  have HRL : Hid (((w.alloc (.cells #[.int .i64 wide, .slice aL lys.length cL] 24)).alloc (.cells #[.pointer none, .slice none 0 0, .int .i64 0] 52)).heap[w.heap.size + 1]? = some (.cells #[.pointer none, .slice none 0 0, .int .i64 0] 52 (0, 0))) := by
    have := heap_alloc_new (w.alloc (.cells #[.int .i64 wide, .slice aL lys.length cL] 24)) (.cells #[.pointer none, .slice none 0 0, .int .i64 0] 52)
    rw [show (w.alloc (.cells #[.int .i64 wide, .slice aL lys.length cL] 24)).heap.size = w.heap.size + 1 from by simp] at this
    exact this
  have HB1 : Hid (Below w.heap.size w ((w.alloc (.cells #[.int .i64 wide, .slice aL lys.length cL] 24)).alloc (.cells #[.pointer none, .slice none 0 0, .int .i64 0] 52))) := ((Below.refl _ _).alloc (Nat.le_refl _) _).alloc (by simp) _
  obtain ⟨bi, oi, ag, cg, ha, hbi, hci, hgi⟩ := hl.row i hi
  have HGI := hid hgi
  subst ha
  obtain ⟨q0, q1⟩ := hS.bn (i := i) (by omega)
  have hlen := hS.2.1.2
  have hin : (i : Int) < (lys.length : Int) := by omega
  have hbi2 : bi < w.heap.size + 1 := by omega
  by_cases e0 : i = 0
  · have q2 : wide = (bnn wide lys i : Int) := by rw [← q0]; unfold bnz; rw [if_pos e0]
    rw [← q2]
    have hi0 : ¬ (0 : Int) < (i : Int) := by omega
    generalize (lyt lys i).length = N at *
    generalize lys.length = n at *
    clear hS hl hgi q0 q1 q2 e0 hT
    go_enter Tryd.func16, Tryd.ntmps16
    go_wp2_with (refine wpList_store_row rfl 52 _ _ rfl (w.heap.size + 1) #[.pointer (some ⟨b, 0, none⟩), .slice ag N cg, .int .i64 wide] rfl rfl _ _ HRL.out (by kernel_rfl) rfl (by simp [Value.oneCell']) ?_)
    refine bodyPost_ret (results_cell_row rfl _ _ (w.heap.size + 1) 52 #[.pointer (some ⟨b, 0, none⟩), .slice ag N cg, .int .i64 wide] (0, 0) _ rfl (setRow_heap _ _ _ _ _ _ HRL.out) Tryd.underlying52 rfl (by kernel_rfl)) rfl ?_
    exact ⟨ag, cg, rfl, HGI.out, below_setRow HB1.out (by omega) _⟩
  · obtain ⟨j, hj⟩ : ∃ j, j = i - 1 := ⟨_, rfl⟩
    obtain ⟨bj, oj, aj, cj, ha, hbj, hcj, _⟩ := hl.row j (by omega)
    injection ha with ha
    injection ha with ha1 ha2 _
    subst ha1
    subst ha2
    have hbl : bnn wide lys i ≤ 6 := q1
    obtain ⟨o1, o2⟩ := hS.own (i := j) (by omega)
    rw [show j + 1 = i from by omega] at o1 o2
    have HV := hid (gvars_any (lyt lys j).length (bnn wide lys i) _ hbl o1 (tabu_below hT HB1.out))
    have hi0 : (0 : Int) < (i : Int) := by omega
    have hij : (i : Int) - 1 = (j : Int) := by omega
    have hjn : (j : Int) < (lys.length : Int) := by omega
    generalize bnn wide lys i = B at *
    generalize (lyt lys i).length = N at *
    generalize (lyt lys j).length = M at *
    generalize lys.length = n at *
    clear hS hl hgi q0 q1 e0 hT hbl o1 o2 hj
    go_enter Tryd.func16, Tryd.ntmps16
    go_wp2_with fail
    refine HV.out.mono ?_
    rintro e w1 ⟨rfl, hw⟩
    have hw1 := hw.symm
    subst hw1
    clear hw HV
    go_wp2_with (refine wpList_store_row rfl 52 _ _ rfl (w.heap.size + 1) #[.pointer (some ⟨b, 0, none⟩), .slice ag N cg, .int .i64 (B : Int)] rfl rfl _ _ HRL.out (by kernel_rfl) rfl (by simp [Value.oneCell']) ?_)
    refine bodyPost_ret (results_cell_row rfl _ _ (w.heap.size + 1) 52 #[.pointer (some ⟨b, 0, none⟩), .slice ag N cg, .int .i64 (B : Int)] (0, 0) _ rfl (setRow_heap _ _ _ _ _ _ HRL.out) Tryd.underlying52 rfl (by kernel_rfl)) rfl ?_
    exact ⟨ag, cg, rfl, HGI.out, below_setRow HB1.out (by omega) _⟩

end Go.Proofs.YtaapbopcfpihbabDoor

namespace Go.Proofs.YtaapbopcfpihbabDoor
open Go.RowKit

set_option maxRecDepth 100000 in
set_option maxHeartbeats 4000000 in
theorem gvalues_any (p b cg cl : Nat) (z : Value) (ag al : Option Addr) (gs : List GatZ) (l : List Int) (w : World) (h3 : 3 ≤ p) (hm : p ≤ 2147483647) (hp : w.cell? ⟨b, 0, none⟩ = some (.int .i64 p)) (hn : gs.length ≤ 64) (hg : LstG w.heap.size w ag cg gs) (hl : Lst w.heap.size w al cl l) (hf : Fits l) (ho : ∀ k, k < gs.length → GtO l.length (gat gs k)) :
    Calls Tryd.prog 42 #[.agg #[.pointer (some ⟨b, 0, none⟩), .slice ag gs.length cg, z], .slice al l.length cl] w fun e w' => ∃ O, e = .returned (.slice (some ⟨O, 0, none⟩) gs.length gs.length) ∧ w.heap.size ≤ O ∧ ArrI w' O 3 gs.length (zat (gvl p l gs)) ∧ Below w.heap.size w w' := by
  obtain ⟨W0, hW0⟩ : ∃ W0, W0 = w.alloc (.cells #[.pointer (some ⟨b, 0, none⟩), .slice ag gs.length cg, z] 52) := ⟨_, rfl⟩
  obtain ⟨hb0, hs0, hz0⟩ := own_blk hW0
  obtain ⟨G, hG⟩ : ∃ G, G = w.heap.size := ⟨_, rfl⟩
  rw [← hG] at hs0
  have HGE := hid hG
  obtain ⟨n, hnn⟩ : ∃ n, n = gs.length := ⟨_, rfl⟩
  have HN := hid hnn
  obtain ⟨F, hF⟩ : ∃ F : Nat → Int, F = zat (gvl p l gs) := ⟨_, rfl⟩
  have HFK : Hid (∀ k, k < n → F k = jnz p (gat gs k).kind (zat l (gat gs k).a.toNat) (zat l (gat gs k).b.toNat)) := fun k hk => by
    rw [hF]
    unfold gvl
    rw [ls_at _ _ _ (by omega)]
  rw [← hF]
  rw [← hnn] at hn hs0 hW0 ⊢
  have c0 : W0.cell? ⟨G, 1, none⟩ = some (.slice ag n cg) := by simp [World.cell?, hs0]
  have HC : Hid (∀ W, Below W0.heap.size W0 W → (W.cell? ⟨G, 0, none⟩ = some (.pointer (some ⟨b, 0, none⟩)) ∧ W.cell? ⟨G, 1, none⟩ = some (.slice ag n cg) ∧ W.cell? ⟨G, 2, none⟩ = some z) ∧ W.cell? ⟨b, 0, none⟩ = some (.int .i64 p)) := fun W hW => by
    have e1 := (hW.block G (by omega)).trans hs0
    exact ⟨⟨by simp [World.cell?, e1], by simp [World.cell?, e1], by simp [World.cell?, e1]⟩, (hW.cell (p := ⟨b, 0, none⟩) (by have := heap_lt hp; show b < _; omega)).trans ((hb0.cell (p := ⟨b, 0, none⟩) (heap_lt hp)).trans hp)⟩
  have HL := hid hl
  have HGS := hid hg
  have HOK := hid ho
  have HFL := hid hf
  have HB0 := hid hb0
  have HWG := hid hW0
  have hmk2 := fun w => run_make_row' (P := Tryd.prog) 25 3 (.int .i64 0) 8 Tryd.underlying25 Tryd.infoInt rfl .i64 .i64 n (by omega) (by omega) w
  have HAM : Hid (ArrI (W0.alloc (.cells (madeCells #[.int .i64 0] n) 3)) W0.heap.size 3 n (fun _ => 0)) := World.rowIs_made _ _ _ _
  have HBM : Hid (Below W0.heap.size W0 (W0.alloc (.cells (madeCells #[.int .i64 0] n) 3))) := (Below.refl _ _).alloc (Nat.le_refl _) _
  have HZ0 := hid hz0
  clear hg hl hf ho hp hb0 hs0 hnn hF hG hz0 hW0
  go_enter Tryd.func42, Tryd.ntmps42
  go_wp2_with fail
  obtain ⟨O, hO⟩ : ∃ O, O = w.heap.size + 1 := ⟨_, rfl⟩
  have HOZ : Hid (W0.heap.size = O) := by unfold Hid; rw [hO]; exact HZ0.out
  rw [← HWG.out, ← HGE.out, show G + 1 = O from by have := HGE.out; omega]
  rw [HOZ.out] at HAM
  have hGO : G < O := by have := HGE.out; omega
  have HOE := hid hO
  clear HWG c0 hO
  generalize W0.alloc (.cells (madeCells #[.int .i64 0] n) 3) = W1 at *
  go_loopw [6, 7, 15] (fun _ _ iv wr => ∃ k : Nat, k ≤ n ∧ iv = .int .i64 (k : Int) ∧ Hid (ArrI wr O 3 n (fll F (fun _ => 0) k) ∧ Below W0.heap.size W0 wr)) (fun _ _ iv _ => n - (intOf iv).toNat)
  case atStart => exact ⟨0, by omega, rfl, by rw [fll_zero]; exact HAM.out, HBM.out⟩
  case round =>
    obtain ⟨k, hk, rfl, hI⟩ := hrel
    by_cases hlt : k < n
    · have hlt2 : (k : Int) < (n : Int) := by omega
      have hks : IntKind.i64.wrap ((k : Int) + 1) = (k : Int) + 1 := by rw [IntKind.wrap_i64]; omega
      have hbw : Below w.heap.size w wr := HB0.out.trans (hI.out.2.mono HB0.out.size)
      obtain ⟨b1, o1, rfl, hb1, g0, g1, g2⟩ := (HGS.out.below hbw).row k (by rw [← HN.out]; exact hlt)
      obtain ⟨⟨hk0, hk1⟩, ⟨ha0, ha1⟩, hb0', hb1'⟩ := HOK.out k (by rw [← HN.out]; exact hlt)
      have HFE := hid (HFK.out k hlt)
      generalize gat gs k = g at *
      obtain ⟨ga, hga⟩ : ∃ ga : Nat, g.a = (ga : Int) := ⟨g.a.toNat, by omega⟩
      obtain ⟨gb, hgb⟩ : ∃ gb : Nat, g.b = (gb : Int) := ⟨g.b.toNat, by omega⟩
      rw [hga] at g1 ha1
      rw [hgb] at g2 hb1'
      rw [hga, hgb, Int.toNat_natCast, Int.toNat_natCast] at HFE
      obtain ⟨bl, ol, rfl, hbl, hxa⟩ := HL.out.row ga (by omega)
      obtain ⟨bl', ol', hal, hbl', hxb⟩ := HL.out.row gb (by omega)
      injection hal with hal
      injection hal with hal1 hal2 _
      subst hal1
      subst hal2
      obtain ⟨fa1, fa2⟩ := HFL.out.all ga
      obtain ⟨fb1, fb2⟩ := HFL.out.all gb
      generalize zat l ga = xa at *
      generalize zat l gb = xb at *
      obtain ⟨W2, hW2⟩ : ∃ W2, W2 = wr.alloc (.cells #[.int .i64 g.kind, .int .i64 (ga : Int), .int .i64 (gb : Int)] 34) := ⟨_, rfl⟩
      obtain ⟨hb2, hs2, hz2⟩ := own_blk hW2
      obtain ⟨B, hB⟩ : ∃ B, B = wr.heap.size := ⟨_, rfl⟩
      have HBE := hid hB
      rw [← hB] at hs2
      have hOW := hI.out.1.lt
      have HB2 : Hid (Below W0.heap.size W0 W2) := hI.out.2.trans (hb2.mono hI.out.2.size)
      have HBD : Hid (Below W2.heap.size W2 W2.drew) := (Below.refl _ _).drew
      have HSB : Hid (∀ W, Below W2.heap.size W2 W → (W.cell? ⟨G, 0, none⟩ = some (.pointer (some ⟨b, 0, none⟩)) ∧ W.cell? ⟨G, 1, none⟩ = some (.slice (some ⟨b1, o1, none⟩) n cg) ∧ W.cell? ⟨G, 2, none⟩ = some z) ∧ (W.cell? ⟨B, 0, none⟩ = some (.int .i64 g.kind) ∧ W.cell? ⟨B, 1, none⟩ = some (.int .i64 (ga : Int)) ∧ W.cell? ⟨B, 2, none⟩ = some (.int .i64 (gb : Int))) ∧ W.cell? ⟨bl, ol + ga, none⟩ = some (.int .i64 xa) ∧ W.cell? ⟨bl, ol + gb, none⟩ = some (.int .i64 xb)) := fun W hW => by
        have e1 := (hW.block B (by omega)).trans hs2
        have hbW : Below w.heap.size w W := HB0.out.trans ((HB2.out.trans (hW.mono HB2.out.size)).mono HB0.out.size)
        exact ⟨(HC.out W (HB2.out.trans (hW.mono HB2.out.size))).1, ⟨by simp [World.cell?, e1], by simp [World.cell?, e1], by simp [World.cell?, e1]⟩, (hbW.cell (p := ⟨bl, ol + ga, none⟩) hbl).trans hxa, (hbW.cell (p := ⟨bl, ol + gb, none⟩) hbl).trans hxb⟩
      have HSO : Hid (∀ W : World, ((W.cell? ⟨G, 0, none⟩ = some (.pointer (some ⟨b, 0, none⟩)) ∧ W.cell? ⟨G, 1, none⟩ = some (.slice (some ⟨b1, o1, none⟩) n cg) ∧ W.cell? ⟨G, 2, none⟩ = some z) ∧ (W.cell? ⟨B, 0, none⟩ = some (.int .i64 g.kind) ∧ W.cell? ⟨B, 1, none⟩ = some (.int .i64 (ga : Int)) ∧ W.cell? ⟨B, 2, none⟩ = some (.int .i64 (gb : Int))) ∧ W.cell? ⟨bl, ol + ga, none⟩ = some (.int .i64 xa) ∧ W.cell? ⟨bl, ol + gb, none⟩ = some (.int .i64 xb)) →
          (((W.setCell ⟨O, k, none⟩ (.int .i64 (F k))).cell? ⟨G, 0, none⟩ = some (.pointer (some ⟨b, 0, none⟩)) ∧ (W.setCell ⟨O, k, none⟩ (.int .i64 (F k))).cell? ⟨G, 1, none⟩ = some (.slice (some ⟨b1, o1, none⟩) n cg) ∧ (W.setCell ⟨O, k, none⟩ (.int .i64 (F k))).cell? ⟨G, 2, none⟩ = some z) ∧ ((W.setCell ⟨O, k, none⟩ (.int .i64 (F k))).cell? ⟨B, 0, none⟩ = some (.int .i64 g.kind) ∧ (W.setCell ⟨O, k, none⟩ (.int .i64 (F k))).cell? ⟨B, 1, none⟩ = some (.int .i64 (ga : Int)) ∧ (W.setCell ⟨O, k, none⟩ (.int .i64 (F k))).cell? ⟨B, 2, none⟩ = some (.int .i64 (gb : Int))) ∧ (W.setCell ⟨O, k, none⟩ (.int .i64 (F k))).cell? ⟨bl, ol + ga, none⟩ = some (.int .i64 xa) ∧ (W.setCell ⟨O, k, none⟩ (.int .i64 (F k))).cell? ⟨bl, ol + gb, none⟩ = some (.int .i64 xb))) := fun W h => by
        have xo : ∀ (c o : Nat), c ≠ O → (W.setCell ⟨O, k, none⟩ (.int .i64 (F k))).cell? ⟨c, o, none⟩ = W.cell? ⟨c, o, none⟩ := fun c o hc => World.cell?_setCell_other _ _ _ _ (by intro e1; injection e1 with h2 _ _; exact hc h2.symm)
        have n1 : G ≠ O := by omega
        have n2 : B ≠ O := by omega
        have n3 : bl ≠ O := by have := HOE.out; omega
        rw [xo _ _ n1, xo _ _ n1, xo _ _ n1, xo _ _ n2, xo _ _ n2, xo _ _ n2, xo _ _ n3, xo _ _ n3]
        exact h
      have HAB : Hid (∀ W, Below W2.drew.heap.size W2.drew W → ArrI W O 3 n (fll F (fun _ => 0) k)) := fun W hW => ((hI.out.1.below hb2 hOW).below ((Below.refl _ _).drew (w := W2)) (by omega)).below hW (by show O < W2.heap.size; omega)
      have HBO : Hid (∀ W, Below W2.drew.heap.size W2.drew W → Below W0.heap.size W0 W) := fun W hW => HB2.out.drew.trans (hW.mono HB2.out.size)
      have HJO : Hid (∀ W, Below W2.heap.size W2 W → Calls Tryd.prog 34 #[.agg #[.pointer (some ⟨b, 0, none⟩), .slice (some ⟨b1, o1, none⟩) n cg, z], .int .i64 g.kind, .int .i64 xa, .int .i64 xb] W fun e w' => e = .returned (.int .i64 (F k)) ∧ Below W.heap.size W w') := fun W hW => by
        rw [HFE.out]
        exact gjoined_any p b _ _ g.kind xa xb W h3 hm (HC.out W (HB2.out.trans (hW.mono HB2.out.size))).2 fa1 fa2 fb1 fb2
      clear hI hb2 hs2 hz2 hbw hxa hxb hB
      go_wp2_with fail
      rw [← hW2, ← HBE.out]
      clear hW2 g0 g1 g2
      refine wp_region_held_drew (S := fun W => (W.cell? ⟨G, 0, none⟩ = some (.pointer (some ⟨b, 0, none⟩)) ∧ W.cell? ⟨G, 1, none⟩ = some (.slice (some ⟨b1, o1, none⟩) n cg) ∧ W.cell? ⟨G, 2, none⟩ = some z) ∧ (W.cell? ⟨B, 0, none⟩ = some (.int .i64 g.kind) ∧ W.cell? ⟨B, 1, none⟩ = some (.int .i64 (ga : Int)) ∧ W.cell? ⟨B, 2, none⟩ = some (.int .i64 (gb : Int))) ∧ W.cell? ⟨bl, ol + ga, none⟩ = some (.int .i64 xa) ∧ W.cell? ⟨bl, ol + gb, none⟩ = some (.int .i64 xb)) (by kernel_rfl) (HSB.out _ HBD.out) (fun hHeld => ?_)
      refine wpAnyH_takeU (i := 0) (v := .slice (some ⟨O, 0, none⟩) n n) rfl (by kernel_rfl) (by kernel_rfl) (by kernel_rfl) (fun _ _ _ h => h) (by rfl) (fun W hC => by go_simp) hHeld ?_
      simp only [Act.put, List.setIfInBounds_toArray, List.set_cons_zero, List.set_cons_succ]
      refine wpAnyH_takeU (i := 1) (v := .int .i64 (k : Int)) rfl (by kernel_rfl) (by kernel_rfl) (by kernel_rfl) (fun _ _ _ h => h) (by rfl) (fun W hC => by go_simp) hHeld ?_
      simp only [Act.put, List.setIfInBounds_toArray, List.set_cons_zero, List.set_cons_succ]
      refine wpAnyH_takeU (i := 2) (v := .agg #[.pointer (some ⟨b, 0, none⟩), .slice (some ⟨b1, o1, none⟩) n cg, z]) rfl (by kernel_rfl) (by kernel_rfl) (by kernel_rfl) (fun _ _ _ h => h) (by rfl) (fun W hC => by (obtain ⟨⟨x1, x2, x3⟩, ⟨x4, x5, x6⟩, x7, x8⟩ := hC); go_simp) hHeld ?_
      simp only [Act.put, List.setIfInBounds_toArray, List.set_cons_zero, List.set_cons_succ]
      refine wpAnyH_takeU (i := 3) (v := .pointer (some ⟨B, 0, none⟩)) rfl (by kernel_rfl) (by kernel_rfl) (by kernel_rfl) (fun _ _ _ h => h) (by rfl) (fun W hC => by go_simp) hHeld ?_
      simp only [Act.put, List.setIfInBounds_toArray, List.set_cons_zero, List.set_cons_succ]
      refine wpAnyH_takeU (i := 4) (v := .int .i64 g.kind) rfl (by kernel_rfl) (by kernel_rfl) (by kernel_rfl) (fun _ _ _ h => h) (by rfl) (fun W hC => by (obtain ⟨⟨x1, x2, x3⟩, ⟨x4, x5, x6⟩, x7, x8⟩ := hC); go_simp) hHeld ?_
      simp only [Act.put, List.setIfInBounds_toArray, List.set_cons_zero, List.set_cons_succ]
      refine wpAnyH_takeU (i := 5) (v := .slice (some ⟨bl, ol, none⟩) l.length cl) rfl (by kernel_rfl) (by kernel_rfl) (by kernel_rfl) (fun _ _ _ h => h) (by rfl) (fun W hC => by go_simp) hHeld ?_
      simp only [Act.put, List.setIfInBounds_toArray, List.set_cons_zero, List.set_cons_succ]
      refine wpAnyH_takeU (i := 6) (v := .pointer (some ⟨B, 1, none⟩)) rfl (by kernel_rfl) (by kernel_rfl) (by kernel_rfl) (fun _ _ _ h => h) (by rfl) (fun W hC => by go_simp) hHeld ?_
      simp only [Act.put, List.setIfInBounds_toArray, List.set_cons_zero, List.set_cons_succ]
      refine wpAnyH_takeU (i := 7) (v := .int .i64 (ga : Int)) rfl (by kernel_rfl) (by kernel_rfl) (by kernel_rfl) (fun _ _ _ h => h) (by rfl) (fun W hC => by (obtain ⟨⟨x1, x2, x3⟩, ⟨x4, x5, x6⟩, x7, x8⟩ := hC); go_simp) hHeld ?_
      simp only [Act.put, List.setIfInBounds_toArray, List.set_cons_zero, List.set_cons_succ]
      refine wpAnyH_takeU (i := 8) (v := .pointer (some ⟨bl, ol + ga, none⟩)) rfl (by kernel_rfl) (by kernel_rfl) (by kernel_rfl) (fun _ _ _ h => h) (by rfl) (fun W hC => by go_simp) hHeld ?_
      simp only [Act.put, List.setIfInBounds_toArray, List.set_cons_zero, List.set_cons_succ]
      refine wpAnyH_takeU (i := 9) (v := .int .i64 xa) rfl (by kernel_rfl) (by kernel_rfl) (by kernel_rfl) (fun _ _ _ h => h) (by rfl) (fun W hC => by (obtain ⟨⟨x1, x2, x3⟩, ⟨x4, x5, x6⟩, x7, x8⟩ := hC); go_simp) hHeld ?_
      simp only [Act.put, List.setIfInBounds_toArray, List.set_cons_zero, List.set_cons_succ]
      refine wpAnyH_takeU (i := 10) (v := .slice (some ⟨bl, ol, none⟩) l.length cl) rfl (by kernel_rfl) (by kernel_rfl) (by kernel_rfl) (fun _ _ _ h => h) (by rfl) (fun W hC => by go_simp) hHeld ?_
      simp only [Act.put, List.setIfInBounds_toArray, List.set_cons_zero, List.set_cons_succ]
      refine wpAnyH_takeU (i := 11) (v := .pointer (some ⟨B, 2, none⟩)) rfl (by kernel_rfl) (by kernel_rfl) (by kernel_rfl) (fun _ _ _ h => h) (by rfl) (fun W hC => by go_simp) hHeld ?_
      simp only [Act.put, List.setIfInBounds_toArray, List.set_cons_zero, List.set_cons_succ]
      refine wpAnyH_takeU (i := 12) (v := .int .i64 (gb : Int)) rfl (by kernel_rfl) (by kernel_rfl) (by kernel_rfl) (fun _ _ _ h => h) (by rfl) (fun W hC => by (obtain ⟨⟨x1, x2, x3⟩, ⟨x4, x5, x6⟩, x7, x8⟩ := hC); go_simp) hHeld ?_
      simp only [Act.put, List.setIfInBounds_toArray, List.set_cons_zero, List.set_cons_succ]
      refine wpAnyH_takeU (i := 13) (v := .pointer (some ⟨bl, ol + gb, none⟩)) rfl (by kernel_rfl) (by kernel_rfl) (by kernel_rfl) (fun _ _ _ h => h) (by rfl) (fun W hC => by go_simp) hHeld ?_
      simp only [Act.put, List.setIfInBounds_toArray, List.set_cons_zero, List.set_cons_succ]
      refine wpAnyH_takeU (i := 14) (v := .int .i64 xb) rfl (by kernel_rfl) (by kernel_rfl) (by kernel_rfl) (fun _ _ _ h => h) (by rfl) (fun W hC => by (obtain ⟨⟨x1, x2, x3⟩, ⟨x4, x5, x6⟩, x7, x8⟩ := hC); go_simp) hHeld ?_
      simp only [Act.put, List.setIfInBounds_toArray, List.set_cons_zero, List.set_cons_succ]
      refine wpAnyH_ready (rs := [15]) (by kernel_rfl) (by simp) ?_
      refine AllReadyH.consU rfl (fun K' hK' => ?_) AllReadyH.nil
      go_simp
      refine (HJO.out _ HBD.out).mono ?_
      rintro e w3 ⟨rfl, hb3⟩
      have hS3 := HSB.out w3 (HBD.out.trans hb3)
      have HA3 := HAB.out w3 hb3
      have c1 := HA3.cell hlt
      have y1 := HA3.frozen k
      have HA2 := hid HA3.next
      have HBL := hid ((HBO.out w3 hb3).setCell (p := ⟨O, k, none⟩) (by show W0.heap.size ≤ O; have := HOZ.out; omega) (.int .i64 (F k)))
      have HS4 := hid (HSO.out w3 hS3)
      generalize fll F (fun _ => 0) k k = y0 at *
      clear HA3 hb3
      refine hK'.out _ _ (hS3) (fun hHeld => ?_)
      clear hK' K'
      refine wpAnyH_takeU (i := 16) (v := .pointer (some ⟨O, k, none⟩)) rfl (by kernel_rfl) (by kernel_rfl) (by kernel_rfl) (fun _ _ _ h => h) (by rfl) (fun W hC => by go_simp) hHeld ?_
      simp only [Act.put, List.setIfInBounds_toArray, List.set_cons_zero, List.set_cons_succ]
      refine wpAnyH_ready (rs := [17]) (by kernel_rfl) (by simp) ?_
      refine AllReadyH.consU rfl (fun K' hK' => ?_) AllReadyH.nil
      go_simp
      refine hK'.out _ _ (HS4.out) (fun hHeld => ?_)
      clear hK' K'
      refine wpAnyH_done (by kernel_rfl) ?_ _
      go_wp2_with fail
      go_roundw
      case rel => exact ⟨k + 1, by omega, by go_num, HA2.out, HBL.out⟩
      case measure => simp [intOf]; omega
    · obtain rfl : k = n := by omega
      have hlt2 : ¬ (k : Int) < (k : Int) := by omega
      have HE : Hid (ArrI wr O 3 k F ∧ Below w.heap.size w wr) := ⟨hI.out.1.congr (fun j hj => fll_all hj), HB0.out.trans (hI.out.2.mono HB0.out.size)⟩
      clear hI
      go_wp2_with fail
      go_ret
      refine ⟨O, ?_, by have := HOE.out; omega, HE.out⟩
      rfl

end Go.Proofs.YtaapbopcfpihbabDoor
