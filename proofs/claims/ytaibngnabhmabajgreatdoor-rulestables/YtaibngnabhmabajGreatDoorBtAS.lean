/- Package rules: all pairs, sorted. Package rules: Alike; the reference's pairs. attestref8: Pairs, Alike. -/
import Derived.Test.YtaibngnabhmabajGreatDoorBtAP
import Derived.Test.YtaibngnabhmabajGreatDoorBtAR
import Derived.Maps.AppendAt
namespace Go.Proofs.YtaibngnabhmabajGreatDoor
open Go.RowKit

/-- a pair as elements -/
def red (p : Nat) (c : Int × Int) : Int × Int := (c.1 % (p : Int), c.2 % (p : Int))
/-- all pairs of rows, as elements -/
def pr4 (p : Nat) (rows : List (List Int)) (a v : Nat) : List (Int × Int) := rows.flatMap fun r => (rw4 r a v).map (red p)
theorem pr4_len (p : Nat) (rows : List (List Int)) (a v : Nat) : (pr4 p rows a v).length = 4 * rows.length := by
  induction rows with
  | nil => rfl
  | cons r rs ih =>
    have : pr4 p (r :: rs) a v = (rw4 r a v).map (red p) ++ pr4 p rs a v := rfl
    rw [this, List.length_append, ih, List.length_map, rw4_len, List.length_cons]
    omega
theorem pr4_take (p : Nat) (rows : List (List Int)) (a v i : Nat) (h : i < rows.length) : pr4 p (rows.take (i + 1)) a v = pr4 p (rows.take i) a v ++ (rw4 (rat rows i) a v).map (red p) := by
  rw [take_succ_rat h]
  unfold pr4
  rw [List.flatMap_append]
  simp
theorem rw4_take (p : Nat) (r : List Int) (a v k : Nat) (h : k < 4) : ((rw4 r a v).take (k + 1)).map (red p) = ((rw4 r a v).take k).map (red p) ++ [(zat r (a + k) % (p : Int), zat r (v + k) % (p : Int))] := by
  have : k = 0 ∨ k = 1 ∨ k = 2 ∨ k = 3 := by omega
  rcases this with rfl | rfl | rfl | rfl <;> rfl
theorem rw4_at (r : List Int) (a v k : Nat) (h : k < 4) : cat (rw4 r a v) k = (zat r (a + k), zat r (v + k)) := by
  have : k = 0 ∨ k = 1 ∨ k = 2 ∨ k = 3 := by omega
  rcases this with rfl | rfl | rfl | rfl <;> rfl
/-- every row has so many elements -/
def allGe (n : Nat) (rows : List (List Int)) : Prop := ∀ k, k < rows.length → n ≤ (rat rows k).length
theorem CRow.grown {K : Nat} {w w' : World} {l : List (Int × Int)} {ob : Option Nat} (h : CRow K w l) (g : w.grownBy w' ob) (hne : some K ≠ ob) : CRow K w' l := h.block (g.block K h.lt hne)

/-- the state of sortedPairs within a row -/
structure SpI (K q i k a v : Nat) (rows : List (List Int)) (uv : Value) (w wr : World) : Prop where
  cel : CelR w.heap.size wr uv (pr4 q (rows.take i) a v ++ ((rw4 (rat rows i) a v).take k).map (red q))
  row : CRow K wr (rw4 (rat rows i) a v)
  ne : some K ≠ uv.ownBlock
  bel : Below w.heap.size w wr

set_option maxRecDepth 100000 in
set_option maxHeartbeats 4000000 in
theorem sortedPairs_any (q b c a v : Nat) (ad : Option Addr) (rows : List (List Int)) (w : World) (h3 : 3 ≤ q) (h4 : q ≤ 2147483647) (hp : w.cell? ⟨b, 0, none⟩ = some (.int .i64 q)) (hL : LstR w.heap.size w ad c rows) (hF : FitsR rows) (hn : rows.length ≤ 2000000000000)
    (hg : allGe 20 rows) (ha : a + 4 ≤ 20) (hv : v + 4 ≤ 20) :
    Calls Tryz.prog 92 #[.pointer (some ⟨b, 0, none⟩), .slice ad rows.length c, .int .i64 (a : Int), .int .i64 (v : Int)] w fun e w' => ∃ uv l', e = .returned uv ∧ l'.Perm (pr4 q rows a v) ∧ l'.Pairwise cle ∧ CelR w.heap.size w' uv l' ∧ Below w.heap.size w w' := by
  have hmx : Tryz.prog.follows .mixedOrders = true := by kernel_rfl
  have hbl : b < w.heap.size := World.block_lt_of_cell? _ _ hp
  have HP := hid hp
  have HL := hid hL
  have HF := hid hF
  have HG := hid hg
  obtain ⟨n, hn'⟩ : ∃ n, n = rows.length := ⟨_, rfl⟩
  have HN := hid hn'
  rw [← hn'] at hn ⊢
  clear hp hL hF hg hn'
  go_enter Tryz.func92, Tryz.ntmps92
  go_wp2_with fail
  go_loopw [9, 11, 13, 16] (fun uv _ _ iv wr => ∃ i : Nat, i ≤ n ∧ iv = .int .i64 i ∧ Hid (CelR w.heap.size wr uv (pr4 q (rows.take i) a v)) ∧ Hid (Below w.heap.size w wr)) (fun _ _ _ iv _ => n - (intOf iv).toNat)
  case atStart => exact ⟨0, Nat.zero_le _, rfl, World.ownsRow_nil _ _ _ _, Below.refl _ _⟩
  case round =>
    obtain ⟨i, hi, rfl, HC, HB⟩ := hrel
    by_cases hlt : i < n
    · have hlt2 : (i : Int) < (n : Int) := by omega
      have his : IntKind.i64.wrap ((i : Int) + 1) = (i : Int) + 1 := by rw [IntKind.wrap_i64]; omega
      obtain ⟨g, o, ak, ck, rfl, hg0, hc, hrl⟩ := HL.out.row i (by have := HN.out; omega)
      replace hc := (HB.out.cell (p := ⟨g, o + i, none⟩) hg0).trans hc
      have hfi := HF.out i (by have := HN.out; omega)
      have hge := HG.out i (by have := HN.out; omega)
      have HRP := hid (rowPairs_any ck a v ak (rat rows i) wr ((hrl.below HB.out).mono HB.out.size).row (by have := hfi.2; omega) (by omega) (by omega))
      have HOW : Hid (∀ k, u9.ownBlock = some k → k < wr.heap.size) := fun k hk => (World.ownsRow.lt HC.out k hk).2
      go_wp2_with fail
      refine HRP.out.mono ?_
      rintro e w2 ⟨K, rfl, hK, hrow, hb2⟩
      have HI0 : Hid (SpI K q i 0 a v rows u9 w w2) := by
        refine ⟨?_, hrow, fun e => ?_, HB.out.trans (hb2.mono HB.out.size)⟩
        · rw [List.take_zero, List.map_nil, List.append_nil]
          exact CelR.belowB HC.out hb2 (Nat.le_refl _)
        · have := HOW.out K e.symm
          omega
      have HLN : Hid ((pr4 q (rows.take i) a v).length ≤ 8000000000000) := by
        unfold Hid
        rw [pr4_len, List.length_take]
        omega
      have HTK : Hid (pr4 q (rows.take (i + 1)) a v = pr4 q (rows.take i) a v ++ (rw4 (rat rows i) a v).map (red q)) := pr4_take q rows a v i (by have := HN.out; omega)
      have HFI : Hid (∀ j, -9223372036854775808 ≤ zat (rat rows i) j ∧ zat (rat rows i) j ≤ 9223372036854775807) := fun j => Fits.all hfi.1 j
      clear hrow hb2 HRP HC HB hc hrl hfi hge HOW hK hg0
      generalize (rat rows i).length = rl
      go_wp2_with fail
      go_loopw [9, 13, 25] (fun uv _ iv wq => ∃ k : Nat, k ≤ 4 ∧ iv = .int .i64 k ∧ Hid (SpI K q i k a v rows uv w wq)) (fun _ _ iv _ => 4 - (intOf iv).toNat)
      case atStart => exact ⟨0, by omega, rfl, HI0⟩
      case round =>
        obtain ⟨k, hk, rfl, HI⟩ := hrel
        by_cases hlk : k < 4
        · have hlk2 : (k : Int) < 4 := by omega
          have hks : IntKind.i64.wrap ((k : Int) + 1) = (k : Int) + 1 := by rw [IntKind.wrap_i64]; omega
          obtain ⟨c0, c1⟩ := HI.out.row.cells k (by rw [rw4_len]; exact hlk)
          rw [rw4_at _ _ _ _ hlk] at c0 c1
          have HT4 := hid (rw4_take q (rat rows i) a v k hlk)
          have b0 := HFI.out (a + k)
          have b1 := HFI.out (v + k)
          simp only at c0 c1
          generalize zat (rat rows i) (a + k) = z0 at *
          generalize zat (rat rows i) (v + k) = z1 at *
          obtain ⟨W1, hW1⟩ : ∃ W1, W1 = wr.alloc (.cells #[.int .i64 z0, .int .i64 z1] 149) := ⟨_, rfl⟩
          have hb1 : Below wr.heap.size wr W1 := by rw [hW1]; exact (Below.refl _ _).alloc (Nat.le_refl _) _
          have hbk : W1.heap[wr.heap.size]? = some (.cells #[.int .i64 z0, .int .i64 z1] 149 (0, 0)) := by rw [hW1]; exact heap_alloc_new wr _
          have x0 : W1.cell? ⟨wr.heap.size, 0, none⟩ = some (.int .i64 z0) := by simp [World.cell?, hbk]
          have x1 : W1.cell? ⟨wr.heap.size, 1, none⟩ = some (.int .i64 z1) := by simp [World.cell?, hbk]
          have hbw : Below w.heap.size w W1 := HI.out.bel.trans (hb1.mono HI.out.bel.size)
          have hpw : W1.cell? ⟨b, 0, none⟩ = some (.int .i64 q) := (hbw.cell (p := ⟨b, 0, none⟩) hbl).trans HP.out
          have HO0 : Hid (∀ W : World, W.cell? ⟨b, 0, none⟩ = some (.int .i64 q) → Calls Tryz.prog 18 #[.pointer (some ⟨b, 0, none⟩), .int .i64 z0] W fun e w' => e = .returned (.int .i64 (z0 % (q : Int))) ∧ w' = W) := fun W h => of_any q b z0 W h3 h4 h b0.1 b0.2
          have HO1 : Hid (∀ W : World, W.cell? ⟨b, 0, none⟩ = some (.int .i64 q) → Calls Tryz.prog 18 #[.pointer (some ⟨b, 0, none⟩), .int .i64 z1] W fun e w' => e = .returned (.int .i64 (z1 % (q : Int))) ∧ w' = W) := fun W h => of_any q b z1 W h3 h4 h b1.1 b1.2
          have HC1 : Hid (CelR w.heap.size W1.drew u9 (pr4 q (rows.take i) a v ++ ((rw4 (rat rows i) a v).take k).map (red q))) := CelR.belowB HI.out.cel (hb1.trans ((Below.refl _ _).drew)) (Nat.le_refl _)
          have HR1 : Hid (CRow K W1.drew (rw4 (rat rows i) a v)) := (HI.out.row.below hb1 HI.out.row.lt).block rfl
          have HBD : Hid (Below w.heap.size w W1.drew) := hbw.drew
          have HNE := hid HI.out.ne
          have HLL : Hid ((pr4 q (rows.take i) a v ++ ((rw4 (rat rows i) a v).take k).map (red q)).length ≤ 8796093021951) := by
            unfold Hid
            rw [List.length_append, List.length_map, List.length_take]
            have := HLN.out
            have := rw4_len (rat rows i) a v
            omega
          generalize hr0 : z0 % (q : Int) = r0 at *
          generalize hr1 : z1 % (q : Int) = r1 at *
          have HOW : Hid (∀ k, u9.ownBlock = some k → w.heap.size ≤ k ∧ k < wr.heap.size) := fun k hk => World.ownsRow.lt HI.out.cel k hk
          clear hb1 hbk hbw HI b0 b1
          go_wp2_with fail
          rw [← hW1]
          clear hW1 c0 c1
          obtain ⟨PB, hPB⟩ : ∃ PB, PB = wr.heap.size := ⟨_, rfl⟩
          rw [← hPB] at x0 x1 ⊢
          have HPB := hid hPB
          clear hPB
          refine wp_region_held_drew (S := (fun W => W.cell? ⟨PB, 0, none⟩ = some (.int .i64 z0) ∧ W.cell? ⟨PB, 1, none⟩ = some (.int .i64 z1) ∧ W.cell? ⟨b, 0, none⟩ = some (.int .i64 q))) (by kernel_rfl) ⟨x0, x1, hpw⟩ (fun hHeld => ?_)
          refine wpAnyH_takeU (i := 0) (v := u9) rfl (by kernel_rfl) (by kernel_rfl) (by kernel_rfl) (fun _ _ _ h => h) (by rfl) (fun W hC => by go_simp) hHeld ?_
          simp only [Act.put, List.setIfInBounds_toArray, List.set_cons_zero, List.set_cons_succ]
          refine wpAnyH_takeU (i := 1) (v := .pointer (some ⟨b, 0, none⟩)) rfl (by kernel_rfl) (by kernel_rfl) (by kernel_rfl) (fun _ _ _ h => h) (by rfl) (fun W hC => by go_simp) hHeld ?_
          simp only [Act.put, List.setIfInBounds_toArray, List.set_cons_zero, List.set_cons_succ]
          refine wpAnyH_takeU (i := 2) (v := .pointer (some ⟨PB, 0, none⟩)) rfl (by kernel_rfl) (by kernel_rfl) (by kernel_rfl) (fun _ _ _ h => h) (by rfl) (fun W hC => by go_simp) hHeld ?_
          simp only [Act.put, List.setIfInBounds_toArray, List.set_cons_zero, List.set_cons_succ]
          refine wpAnyH_takeU (i := 3) (v := .int .i64 z0) rfl (by kernel_rfl) (by kernel_rfl) (by kernel_rfl) (fun _ _ _ h => h) (by rfl) (fun W hC => by (obtain ⟨y0, y1, y2⟩ := hC); go_simp) hHeld ?_
          simp only [Act.put, List.setIfInBounds_toArray, List.set_cons_zero, List.set_cons_succ]
          refine wpAnyH_takeU (i := 5) (v := .pointer (some ⟨b, 0, none⟩)) rfl (by kernel_rfl) (by kernel_rfl) (by kernel_rfl) (fun _ _ _ h => h) (by rfl) (fun W hC => by go_simp) hHeld ?_
          simp only [Act.put, List.setIfInBounds_toArray, List.set_cons_zero, List.set_cons_succ]
          refine wpAnyH_takeU (i := 6) (v := .pointer (some ⟨PB, 1, none⟩)) rfl (by kernel_rfl) (by kernel_rfl) (by kernel_rfl) (fun _ _ _ h => h) (by rfl) (fun W hC => by go_simp) hHeld ?_
          simp only [Act.put, List.setIfInBounds_toArray, List.set_cons_zero, List.set_cons_succ]
          refine wpAnyH_takeU (i := 7) (v := .int .i64 z1) rfl (by kernel_rfl) (by kernel_rfl) (by kernel_rfl) (fun _ _ _ h => h) (by rfl) (fun W hC => by (obtain ⟨y0, y1, y2⟩ := hC); go_simp) hHeld ?_
          simp only [Act.put, List.setIfInBounds_toArray, List.set_cons_zero, List.set_cons_succ]
          refine wpAnyH_ready (rs := [4]) (by kernel_rfl) (by simp) ?_
          refine AllReadyH.consU rfl (fun K' hK' => ?_) AllReadyH.nil
          go_simp
          refine (HO0.out _ hHeld.2.2).mono ?_
          rintro e w' ⟨rfl, hw'⟩
          have hw'' := hw'.symm
          subst hw''
          refine hK'.out _ _ hHeld (fun hHeld => ?_)
          clear hK' K' hw'
          refine wpAnyH_ready (rs := [8]) (by kernel_rfl) (by simp) ?_
          refine AllReadyH.consU rfl (fun K' hK' => ?_) AllReadyH.nil
          go_simp
          refine (HO1.out _ hHeld.2.2).mono ?_
          rintro e w' ⟨rfl, hw'⟩
          have hw'' := hw'.symm
          subst hw''
          refine hK'.out _ _ hHeld (fun hHeld => ?_)
          clear hK' K' hw'
          refine wpAnyH_takeU (i := 9) (v := .agg #[.int .i64 r0, .int .i64 r1]) rfl (by kernel_rfl) (by kernel_rfl) (by kernel_rfl) (fun _ _ _ h => h) (by rfl) (fun W hC => by go_simp) hHeld ?_
          simp only [Act.put, List.setIfInBounds_toArray, List.set_cons_zero, List.set_cons_succ]
          refine wpAnyH_ready (rs := [10]) (by kernel_rfl) (by simp) ?_
          refine AllReadyH.consU rfl (fun K' hK' => ?_) AllReadyH.nil
          go_simp
          obtain ⟨WA, hWA⟩ : ∃ WA, WA = (W1.alloc (.cells #[.int .i64 r0, .int .i64 r1] 149)).drew := ⟨_, rfl⟩
          have hbA : Below W1.heap.size W1 WA := by rw [hWA]; exact ((Below.refl _ _).alloc (Nat.le_refl _) _).drew
          have hcA : WA.heap[W1.heap.size]? = some (.cells #[.int .i64 r0, .int .i64 r1] 149 (0, 0)) := by rw [hWA]; exact heap_alloc_new W1 _
          have hCA : CelR w.heap.size WA u9 (pr4 q (rows.take i) a v ++ ((rw4 (rat rows i) a v).take k).map (red q)) := CelR.belowB (w := W1.drew) HC1.out (show Below W1.heap.size W1.drew WA from ⟨hbA.os, hbA.tape, hbA.output, hbA.size, hbA.block⟩) (Nat.le_refl _)
          have hRA : CRow K WA (rw4 (rat rows i) a v) := HR1.out.block (hbA.block K HR1.out.lt)
          have hBA : Below w.heap.size w WA := HBD.out.trans (show Below w.heap.size W1.drew WA from ⟨hbA.os, hbA.tape, hbA.output, hbA.size, fun j hj => hbA.block j (Nat.lt_of_lt_of_le hj HBD.out.size)⟩)
          have hHA : WA.cell? ⟨PB, 0, none⟩ = some (.int .i64 z0) ∧ WA.cell? ⟨PB, 1, none⟩ = some (.int .i64 z1) ∧ WA.cell? ⟨b, 0, none⟩ = some (.int .i64 q) :=
            ⟨(hbA.cell (p := ⟨PB, 0, none⟩) (World.block_lt_of_cell? _ _ x0)).trans x0, (hbA.cell (p := ⟨PB, 1, none⟩) (World.block_lt_of_cell? _ _ x1)).trans x1, (hbA.cell (p := ⟨b, 0, none⟩) (World.block_lt_of_cell? _ _ hpw)).trans hpw⟩
          rw [← hWA]
          refine hK'.out _ _ hHA (fun hHeld => ?_)
          clear hK' K'
          obtain ⟨i0, hi0, hz0, hz1, hz2⟩ := info_parts (show (Tryz.prog.info? 149).map (fun i => (i.zero, i.size, i.bytes)) = some (some (.agg #[.int .i64 0, .int .i64 0]), 2, 16) by kernel_rfl)
          obtain ⟨v', w5, hrun, hown2, hgrow, _, hwhere⟩ := run_append_own_at WA w.heap.size 64 64 149 i0 _ 2 16 Tryz.underlying64 hi0 hz0 hz1 hz2 rfl (by decide) u9 _ _ hCA ⟨W1.heap.size, 0, none⟩ 1 1 [.int .i64 r0, .int .i64 r1] rfl (by
            intro j u hj
            have hadd : (⟨W1.heap.size, 0, none⟩ : Addr).add j = ⟨W1.heap.size, j, none⟩ := by unfold Addr.add; split <;> simp_all
            rw [hadd]
            simp only [World.cell?, hcA]
            simpa using hj) (by intro u hu; simp at hu; rcases hu with rfl | rfl <;> rfl) (by have := HLL.out; unfold maxLen; omega) (by have := HLL.out; omega) hBA.size
          have hgl : ∀ k, u9.ownBlock = some k → w.heap.size ≤ k ∧ k < wr.heap.size := HOW.out
          have hC2 : w5.cell? ⟨PB, 0, none⟩ = some (.int .i64 z0) ∧ w5.cell? ⟨PB, 1, none⟩ = some (.int .i64 z1) ∧ w5.cell? ⟨b, 0, none⟩ = some (.int .i64 q) :=
            ⟨hgrow.cell hHA.1 (fun e => by have := (hgl PB e.symm).2; have := HPB.out; omega), hgrow.cell hHA.2.1 (fun e => by have := (hgl PB e.symm).2; have := HPB.out; omega), hgrow.cell hHA.2.2 (fun e => by have := (hgl b e.symm).1; omega)⟩
          have HI5 : Hid (SpI K q i (k + 1) a v rows v' w w5) := by
            refine ⟨?_, hRA.grown hgrow HNE.out, fun e => ?_, hBA.grown hgrow hBA.size (fun k hk => (hgl k hk).1)⟩
            · unfold CelR
              rw [HT4.out, ← List.append_assoc, celv_app, List.length_append]
              simpa [celv] using hown2
            · rcases hwhere with h | h
              · rw [h] at e; exact HNE.out e
              · rw [h] at e
                injection e with e
                have := hRA.lt
                omega
          clear hCA hRA hBA hHA hcA hbA hown2 hgrow hwhere hgl
          refine wpAnyH_ready (rs := [11]) (by kernel_rfl) (by simp) ?_
          refine AllReadyH.consU rfl (fun K' hK' => ?_) AllReadyH.nil
          rw [if_pos (by rfl)]
          refine rg_appendU _ _ 64 64 rfl _ _ v' rfl rfl hrun ?_
          refine hK'.out _ _ hC2 (fun hHeld => ?_)
          clear hK' K' hrun
          simp only [Act.put, List.setIfInBounds_toArray, List.set_cons_zero, List.set_cons_succ]
          refine wpAnyH_ready (rs := [12]) (by kernel_rfl) (by simp) ?_
          refine AllReadyH.consU rfl (fun K' hK' => ?_) AllReadyH.nil
          go_simp
          refine hK'.out _ _ hHeld (fun _ => ?_)
          clear hK' K' hHeld
          refine wpAnyH_done (by kernel_rfl) ?_ _
          go_wp2_with fail
          go_roundw
          case rel => exact ⟨k + 1, by omega, by go_num, HI5⟩
          case measure => simp [intOf]; omega
        · obtain rfl : k = 4 := by omega
          have HC4 : Hid (CelR w.heap.size wr u9 (pr4 q (rows.take (i + 1)) a v)) := by
            unfold Hid
            rw [HTK.out]
            have := HI.out.cel
            rw [show (rw4 (rat rows i) a v).take 4 = rw4 (rat rows i) a v from List.take_of_length_le (by rw [rw4_len]; omega)] at this
            exact this
          have HB4 := hid HI.out.bel
          clear HI
          go_wp2_with fail
          go_roundw
          case rel => exact ⟨i + 1, by omega, by go_num, HC4, HB4⟩
          case measure => simp [intOf]; omega
    · obtain rfl : i = n := by omega
      have hlt2 : ¬ (i : Int) < (i : Int) := by omega
      rw [HN.out, List.take_length] at HC
      have HST := hid (srtP w.heap.size u9 (pr4 q rows a v) wr HC.out (by rw [pr4_len, ← HN.out]; omega) HB.out.size)
      clear HC
      go_wp2_with fail
      refine HST.out.mono ?_
      rintro e w2 ⟨rfl, l', hpm, hso, hcl, hb2⟩
      have HE : Hid (∃ uv l', Ending.returned u9 = .returned uv ∧ l'.Perm (pr4 q rows a v) ∧ l'.Pairwise cle ∧ CelR w.heap.size w2 uv l' ∧ Below w.heap.size w w2) := ⟨u9, l', rfl, hpm, hso, hcl, HB.out.trans hb2⟩
      clear hpm hso hcl hb2 HST
      go_wp2_with fail
      go_ret
      exact HE.out

end Go.Proofs.YtaibngnabhmabajGreatDoor

namespace Go.Proofs.YtaibngnabhmabajGreatDoor
open Go.RowKit

end Go.Proofs.YtaibngnabhmabajGreatDoor

namespace Go.Proofs.YtaibngnabhmabajGreatDoor
open Go.RowKit

/-- the state of Pairs within a row -/
structure RpI (q i k a v : Nat) (rows : List (List Int)) (uv : Value) (w wr : World) : Prop where
  cel : CelR w.heap.size wr uv (pr4 q (rows.take i) a v ++ ((rw4 (rat rows i) a v).take k).map (red q))
  bel : Below w.heap.size w wr

set_option maxRecDepth 100000 in
set_option maxHeartbeats 4000000 in
theorem rpairs_any (q c a v : Nat) (ad : Option Addr) (rows : List (List Int)) (w : World) (h3 : 3 ≤ q) (h4 : q ≤ 2147483647) (hL : LstR w.heap.size w ad c rows) (hF : FitsR rows) (hn : rows.length ≤ 2000000000000)
    (hg : allGe 20 rows) (ha : a + 4 ≤ 20) (hv : v + 4 ≤ 20) :
    Calls Tryz.prog 55 #[.int .i64 q, .slice ad rows.length c, .int .i64 (a : Int), .int .i64 (v : Int)] w fun e w' => ∃ uv, e = .returned uv ∧ CelR w.heap.size w' uv (pr4 q rows a v) ∧ Below w.heap.size w w' := by
  have HL := hid hL
  have HF := hid hF
  have HG := hid hg
  obtain ⟨n, hn'⟩ : ∃ n, n = rows.length := ⟨_, rfl⟩
  have HN := hid hn'
  rw [← hn'] at hn ⊢
  clear hL hF hg hn'
  go_enter Tryz.func55, Tryz.ntmps55
  go_wp2_with fail
  go_loopw [9, 10, 11, 12, 13] (fun uv iv _ _ _ wr => ∃ i : Nat, i ≤ n ∧ iv = .int .i64 i ∧ Hid (CelR w.heap.size wr uv (pr4 q (rows.take i) a v)) ∧ Hid (Below w.heap.size w wr)) (fun _ iv _ _ _ _ => n - (intOf iv).toNat)
  case atStart => exact ⟨0, Nat.zero_le _, rfl, World.ownsRow_nil _ _ _ _, Below.refl _ _⟩
  case round =>
    obtain ⟨i, hi, rfl, HC, HB⟩ := hrel
    by_cases hlt : i < n
    · have hlt2 : (i : Int) < (n : Int) := by omega
      have his : IntKind.i64.wrap ((i : Int) + 1) = (i : Int) + 1 := by rw [IntKind.wrap_i64]; omega
      obtain ⟨g, o, ak, ck, rfl, hg0, hc, hrl⟩ := HL.out.row i (by have := HN.out; omega)
      have hfi := HF.out i (by have := HN.out; omega)
      have hge := HG.out i (by have := HN.out; omega)
      have HI0 : Hid (RpI q i 0 a v rows u9 w wr) := ⟨by rw [List.take_zero, List.map_nil, List.append_nil]; exact HC.out, HB.out⟩
      have HLN : Hid ((pr4 q (rows.take i) a v).length ≤ 8000000000000) := by
        unfold Hid
        rw [pr4_len, List.length_take]
        omega
      have HTK : Hid (pr4 q (rows.take (i + 1)) a v = pr4 q (rows.take i) a v ++ (rw4 (rat rows i) a v).map (red q)) := pr4_take q rows a v i (by have := HN.out; omega)
      have HFI : Hid (∀ j, -9223372036854775808 ≤ zat (rat rows i) j ∧ zat (rat rows i) j ≤ 9223372036854775807) := fun j => Fits.all hfi.1 j
      have HRC : Hid (∀ W, Below w.heap.size w W → W.cell? ⟨g, o + i, none⟩ = some (.slice ak (rat rows i).length ck) ∧ ∀ j, j < (rat rows i).length → ∃ b p, ak = some ⟨b, p, none⟩ ∧ W.cell? ⟨b, p + j, none⟩ = some (.int .i64 (zat (rat rows i) j))) := fun W hW =>
        ⟨(hW.cell (p := ⟨g, o + i, none⟩) hg0).trans hc, fun j hj => by
          obtain ⟨b, p, e1, e2, e3⟩ := hrl.row j hj
          exact ⟨b, p, e1, (hW.cell (p := ⟨b, p + j, none⟩) e2).trans e3⟩⟩
      have hrl2 : (rat rows i).length ≤ 17592186044000 := hfi.2
      have HRL := hid hge
      clear HC HB hc hrl hfi hge hg0
      obtain ⟨rl, hrl'⟩ : ∃ rl, rl = (rat rows i).length := ⟨_, rfl⟩
      rw [← hrl'] at HRC HRL hrl2
      clear hrl'
      go_wp2_with fail
      go_loopw [9, 11, 12, 13] (fun uv iv _ _ wq => ∃ k : Nat, k ≤ 4 ∧ iv = .int .i64 k ∧ Hid (RpI q i k a v rows uv w wq)) (fun _ iv _ _ _ => 4 - (intOf iv).toNat)
      case atStart => exact ⟨0, by omega, rfl, HI0⟩
      case round =>
        obtain ⟨k, hk, rfl, HI⟩ := hrel
        by_cases hlk : k < 4
        · have hlk2 : (k : Int) < 4 := by omega
          have hks : IntKind.i64.wrap ((k : Int) + 1) = (k : Int) + 1 := by rw [IntKind.wrap_i64]; omega
          obtain ⟨ia, hia⟩ : ∃ ia, ia = a + k := ⟨_, rfl⟩
          obtain ⟨iv, hiv⟩ : ∃ iv, iv = v + k := ⟨_, rfl⟩
          have e1 : (a : Int) + (k : Int) = (ia : Int) := by omega
          have e2 : (v : Int) + (k : Int) = (iv : Int) := by omega
          have w1' : IntKind.i64.wrap (ia : Int) = (ia : Int) := by rw [IntKind.wrap_i64]; omega
          have w2' : IntKind.i64.wrap (iv : Int) = (iv : Int) := by rw [IntKind.wrap_i64]; omega
          have l1 : (ia : Int) < (rl : Int) := by have := HRL.out; omega
          have l2 : (iv : Int) < (rl : Int) := by have := HRL.out; omega
          obtain ⟨hc, hel⟩ := HRC.out wr HI.out.bel
          obtain ⟨b, p, rfl, c0⟩ := hel ia (by omega)
          obtain ⟨b', p', hbp, c1⟩ := hel iv (by omega)
          injection hbp with hbp
          injection hbp with hb' hp'
          subst hb' hp'
          have HT4 := hid (rw4_take q (rat rows i) a v k hlk)
          rw [← hia, ← hiv] at HT4
          have b0 := HFI.out ia
          have b1 := HFI.out iv
          generalize zat (rat rows i) ia = z0 at *
          generalize zat (rat rows i) iv = z1 at *
          have HO0 : Hid (Calls Tryz.prog 75 #[.int .i64 q, .int .i64 z0] wr fun e w' => e = .returned (.int .i64 (z0 % (q : Int))) ∧ w' = wr) := rof_any q z0 wr h3 h4 b0.1 b0.2
          have HO1 : Hid (Calls Tryz.prog 75 #[.int .i64 q, .int .i64 z1] wr fun e w' => e = .returned (.int .i64 (z1 % (q : Int))) ∧ w' = wr) := rof_any q z1 wr h3 h4 b1.1 b1.2
          have HLL : Hid ((pr4 q (rows.take i) a v ++ ((rw4 (rat rows i) a v).take k).map (red q)).length ≤ 8796093021951) := by
            unfold Hid
            rw [List.length_append, List.length_map, List.length_take]
            have := HLN.out
            have := rw4_len (rat rows i) a v
            omega
          generalize z0 % (q : Int) = r0 at *
          generalize z1 % (q : Int) = r1 at *
          clear b0 b1 hel hia hiv
          go_wp2_with fail
          refine HO0.out.mono ?_
          rintro e w1 ⟨rfl, hw1⟩
          have hw2 := hw1.symm
          subst hw2
          go_wp2_with fail
          refine HO1.out.mono ?_
          rintro e w1 ⟨rfl, hw1⟩
          have hw2 := hw1.symm
          subst hw2
          clear HO0 HO1 hc c0 c1
          go_wp2_with (at_builtin; refine wpList_celB wr rfl _ _ rfl _ w.heap.size _ r0 r1 HI.out.cel rfl rfl (by have := HLL.out; omega) HI.out.bel.size ?_)
          intro v' w3 hc3 hb3 _
          have HI3 : Hid (RpI q i (k + 1) a v rows v' w w3) := ⟨by rw [HT4.out]; simpa [List.append_assoc] using hc3, HI.out.bel.trans hb3⟩
          clear hc3 hb3 HI
          go_wp2_with fail
          go_roundw
          case rel => exact ⟨k + 1, by omega, by go_num, HI3⟩
          case measure => simp [intOf]; omega
        · obtain rfl : k = 4 := by omega
          have HC4 : Hid (CelR w.heap.size wr u9 (pr4 q (rows.take (i + 1)) a v)) := by
            unfold Hid
            rw [HTK.out]
            have := HI.out.cel
            rw [show (rw4 (rat rows i) a v).take 4 = rw4 (rat rows i) a v from List.take_of_length_le (by rw [rw4_len]; omega)] at this
            exact this
          have HB4 := hid HI.out.bel
          clear HI
          go_wp2_with fail
          go_roundw
          case rel => exact ⟨i + 1, by omega, by go_num, HC4, HB4⟩
          case measure => simp [intOf]; omega
    · obtain rfl : i = n := by omega
      have hlt2 : ¬ (i : Int) < (i : Int) := by omega
      rw [HN.out, List.take_length] at HC
      have HE : Hid (∃ uv, Ending.returned u9 = .returned uv ∧ CelR w.heap.size wr uv (pr4 q rows a v) ∧ Below w.heap.size w wr) := ⟨u9, rfl, HC.out, HB.out⟩
      clear HC
      go_wp2_with fail
      go_ret
      exact HE.out

end Go.Proofs.YtaibngnabhmabajGreatDoor
