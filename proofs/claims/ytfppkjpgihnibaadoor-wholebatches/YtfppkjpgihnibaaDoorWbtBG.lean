/- Package whole: Batch. attestref2: Point. Package rules: rowOf. -/
import Derived.Test.YtfppkjpgihnibaaDoorWbtBE
import Derived.Test.YtfppkjpgihnibaaDoorWbtBF
import Derived.Test.YtfppkjpgihnibaaDoorPlain
import Derived.Test.YtfppkjpgihnibaaDoorDoms
import Derived.Test.YtfppkjpgihnibaaDoorRefs
import Derived.Test.YtfppkjpgihnibaaDoorTres
import Derived.Deep.RegionHeld3
import Derived.Test.YtfppkjpgihnibaaDoorWbtBD
namespace Go.Proofs.YtfppkjpgihnibaaDoor
open Go.RowKit Go.Maps

/-- a column of rows -/
def colz (rows : List (List Int)) (i : Nat) : List Int := rows.map fun r => zat r i
theorem colz_len (rows : List (List Int)) (i : Nat) : (colz rows i).length = rows.length := by simp [colz]
theorem colz_at (rows : List (List Int)) (i j : Nat) (h : j < rows.length) : zat (colz rows i) j = zat (rat rows j) i := by simp [colz, zat, rat, h]
/-- what Batch has at a place -/
def btv (q N : Nat) (s r g : Int) (first : List Int) (words : List (List Int)) (i : Nat) : Int := btz q (N / 8) (Dom.pt q s r i) (zat first i) g (colz words i)
/-- what Batch tells -/
def BtR (q N : Nat) (s r g : Int) (first : List Int) (words : List (List Int)) (w : World) (e : Ending) (w' : World) : Prop := Below w.heap.size w w' ∧
  if N < 8 ∨ first.length ≠ N ∨ wdB N words = false then e = .returned (.tuple #[.slice none 0 0, .iface 46 (.int .i64 2)])
  else ∃ X, e = .returned (.tuple #[.slice (some ⟨X, 0, none⟩) N N, .nilIface]) ∧ w'.rowIs X 3 N (fun i => .int .i64 (btv q N s r g first words i))
/-- the memory of Batch -/
structure BtM (X Y Z N m i : Nat) (q : Nat) (s r : Int) (f : Nat → Int) (w W : World) : Prop where
  x : W.rowIs X 3 N (ivF f i)
  y : ∃ F : Nat → Int, W.rowIs Y 3 m (fun j => .int .i64 (F j))
  z : W.rowIs Z 3 N (fun j => .int .i64 (Dom.pt q s r j))
  bel : Below w.heap.size w W

theorem pt_bd {q : Nat} (h3 : 3 ≤ q) (s r : Int) (i : Nat) : 0 ≤ Dom.pt q s r i ∧ Dom.pt q s r i < (q : Int) := emod_bounds (s * r ^ i) q h3
theorem fits_colz {rows : List (List Int)} (h : FitsR rows) (i : Nat) : Fits (colz rows i) := fun k hk => by
  rw [colz_len] at hk
  rw [colz_at rows i k hk]
  exact Fits.all (h k hk).1 i

set_option maxRecDepth 100000 in
set_option maxHeartbeats 8000000 in
theorem pbatch_any (q b d N c1 c2 : Nat) (r s g : Int) (a1 a2 : Option Addr) (first : List Int) (words : List (List Int)) (w : World) (hpr : Num.Prime q) (h3 : 3 ≤ q) (h4 : q ≤ 2147483647) (hp : w.cell? ⟨b, 0, none⟩ = some (.int .i64 q)) (hd : DomAt w d b (N : Int) r s) (hN : N ≤ 65536) (hr0 : 0 ≤ r) (hr1 : r < q) (hs0 : 0 ≤ s) (hs1 : s < q) (hg : I64 g)
    (hf : Fits first) (hfl : first.length ≤ 17592186044416) (hl1 : RowB w.heap.size w a1 first) (hF : FitsR words) (hl2 : LstR w.heap.size w a2 c2 words) (hn : words.length ≤ 5864062014634) :
    Calls Tryd.prog 8 #[.pointer (some ⟨d, 0, none⟩), .slice a1 first.length c1, .slice a2 words.length c2, .int .i64 g] w (BtR q N s r g first words w) := by
  have hdl := hd.lt
  have hbl : b < w.heap.size := World.block_lt_of_cell? _ _ hp
  obtain ⟨R, hR⟩ : ∃ R, R = BtR q N s r g first words w := ⟨_, rfl⟩
  rw [← hR]
  have HRB : Hid (∀ W, Below w.heap.size w W → (N < 8 ∨ first.length ≠ N ∨ wdB N words = false) → R (.returned (.tuple #[.slice none 0 0, .iface 46 (.int .i64 2)])) W) := fun W h1 h2 => by rw [hR]; exact ⟨h1, by rw [if_pos h2]⟩
  have HRG : Hid (∀ W X, Below w.heap.size w W → ¬ (N < 8 ∨ first.length ≠ N ∨ wdB N words = false) → W.rowIs X 3 N (fun i => .int .i64 (btv q N s r g first words i)) → R (.returned (.tuple #[.slice (some ⟨X, 0, none⟩) N N, .nilIface])) W) := fun W X h1 h2 h5 => by rw [hR]; exact ⟨h1, by rw [if_neg h2]; exact ⟨X, rfl, h5⟩⟩
  have HD := hid (fun W (h : Below w.heap.size w W) => hd.below h hdl)
  have HS := hid (fun W (h : DomAt W d b (N : Int) r s) => size_any d b N r s W h)
  have HIW := hid (fun W (h : Below w.heap.size w W) => wisWide_any c2 N a2 words W (by omega) ((hl2.below h).mono h.size))
  have HP := hid hp
  have HL1 := hid hl1
  have HL2 := hid hl2
  have HF := hid hF
  have HFF := hid hf
  have HPT := hid (fun W (h : Below w.heap.size w W) => points_any q b d N r s W h3 h4 ((h.cell (p := ⟨b, 0, none⟩) hbl).trans hp) (hd.below h hdl) hN hr0 hr1 hs0 hs1)
  obtain ⟨fl, hfl'⟩ : ∃ fl, fl = first.length := ⟨_, rfl⟩
  obtain ⟨m, hm⟩ : ∃ m, m = words.length := ⟨_, rfl⟩
  have HFL := hid hfl'
  have HM := hid hm
  rw [← hfl'] at hfl HRB HRG ⊢
  rw [← hm] at hn HIW ⊢
  clear hR hd hl1 hl2 hF hf hfl' hm
  by_cases h8 : N < 8
  · have HE := hid (HRB.out w (Below.refl _ _) (.inl h8))
    have q8 : (N : Int) < 8 := by omega
    have qd : decide ((N : Int) < 8) = true := decide_eq_true q8
    have HS0 := hid (HS.out w (HD.out w (Below.refl _ _)))
    go_enter Tryd.func8, Tryd.ntmps8
    go_wp2_with fail
    refine HS0.out.mono ?_
    rintro e w' ⟨rfl, hw'⟩
    have hw'' := hw'.symm
    subst hw''
    clear hw'
    go_wp2_with fail
    exact HE.out
  have q8 : ¬ (N : Int) < 8 := by omega
  have qd : decide ((N : Int) < 8) = false := decide_eq_false q8
  have HS0 := hid (HS.out w (HD.out w (Below.refl _ _)))
  by_cases hlf : fl = N
  · have qf : ((fl : Int) == (N : Int)) = true := by rw [hlf, beq_self_eq_true]
    have HIW0 := hid (HIW.out w (Below.refl _ _))
    have HN8 := hid h8
    have hlf2 := hlf.symm
    subst hlf2
    obtain ⟨wd, hwd⟩ : ∃ wd, wd = wdB N words := ⟨_, rfl⟩
    rw [← hwd] at HIW0 HRB HRG
    have HWD := hid hwd
    clear hlf hwd HIW
    go_enter Tryd.func8, Tryd.ntmps8
    go_wp2_with fail
    refine HS0.out.mono ?_
    rintro e w' ⟨rfl, hw'⟩
    have hw'' := hw'.symm
    subst hw''
    clear hw'
    go_wp2_with fail
    refine HS0.out.mono ?_
    rintro e w' ⟨rfl, hw'⟩
    have hw'' := hw'.symm
    subst hw''
    clear hw'
    go_wp2_with fail
    refine HS0.out.mono ?_
    rintro e w' ⟨rfl, hw'⟩
    have hw'' := hw'.symm
    subst hw''
    clear hw'
    go_wp2_with fail
    refine HIW0.out.mono ?_
    rintro e w1 ⟨rfl, hb1⟩
    have HB1 := hid hb1
    cases wd with
    | false =>
      have HE := hid (HRB.out w1 hb1 (.inr (.inr rfl)))
      clear hb1
      go_wp2_with fail
      exact HE.out
    | true =>
      have HS1 := hid (HS.out w1 (HD.out w1 hb1))
      have HNO : Hid (¬ (N < 8 ∨ N ≠ N ∨ true = false)) := fun h => by
        rcases h with h | h | h
        · exact HN8.out h
        · exact h rfl
        · cases h
      clear hb1
      go_wp2_with fail
      refine HS1.out.mono ?_
      rintro e w' ⟨rfl, hw'⟩
      have hw'' := hw'.symm
      subst hw''
      clear hw'
      have hmkN := run_make_row' (P := Tryd.prog) 22 3 (.int .i64 0) 8 Tryd.underlying22 intInfo rfl .i64 .i64 N (by omega) (by omega)
      have hmkM := run_make_row' (P := Tryd.prog) 22 3 (.int .i64 0) 8 Tryd.underlying22 intInfo rfl .i64 .i64 m (by omega) (by omega)
      obtain ⟨V1, hV1⟩ : ∃ V1, V1 = w1.alloc (.cells (madeCells #[.int .i64 0] N) 3) := ⟨_, rfl⟩
      obtain ⟨W2, hW2⟩ : ∃ W2, W2 = V1.alloc (.cells (madeCells #[.int .i64 0] m) 3) := ⟨_, rfl⟩
      have hz1 : V1.heap.size = w1.heap.size + 1 := by rw [hV1]; simp
      have hz2 : W2.heap.size = w1.heap.size + 2 := by rw [hW2]; simp [hz1]
      have b1 : Below w1.heap.size w1 V1 := by rw [hV1]; exact (Below.refl _ _).alloc (Nat.le_refl _) _
      have b2 : Below V1.heap.size V1 W2 := by rw [hW2]; exact (Below.refl _ _).alloc (Nat.le_refl _) _
      have b12 := b1.trans (b2.mono b1.size)
      have hbw2 := HB1.out.trans (b12.mono HB1.out.size)
      have r0 : W2.rowIs w1.heap.size 3 N (ivF (btv q N s r g first words) 0) := by
        rw [hW2, hV1]
        exact ((World.rowIs_made w1 _ N _).congr (fun i _ => by unfold ivF; rw [if_neg (by omega)])).alloc _
      have r1 : W2.rowIs (w1.heap.size + 1) 3 m (fun _ => .int .i64 0) := by
        rw [hW2, ← hz1]
        exact World.rowIs_made V1 (.int .i64 0) m 3
      obtain ⟨X, hX⟩ : ∃ X, X = w1.heap.size := ⟨_, rfl⟩
      obtain ⟨Y, hY⟩ : ∃ Y, Y = w1.heap.size + 1 := ⟨_, rfl⟩
      obtain ⟨Z, hZ⟩ : ∃ Z, Z = W2.heap.size := ⟨_, rfl⟩
      have HPT2 := hid (HPT.out W2 hbw2)
      rw [← hX] at r0
      rw [← hY] at r1
      rw [← hZ] at HPT2
      have HR0 := hid r0
      have HR1 := hid r1
      have HB2 := hid hbw2
      have HNE : Hid (X ≠ Y ∧ X ≠ Z ∧ Y ≠ Z ∧ w.heap.size ≤ X ∧ w.heap.size ≤ Y ∧ w.heap.size ≤ Z ∧ X < Z ∧ Y < Z) := by have := HB1.out.size; unfold Hid; omega
      clear r0 r1 b1 b2 b12 hbw2 HPT HS1 HS0 HIW0 hz2
      go_wp2_with fail
      rw [← hV1, ← hW2]
      rw [← hY, ← hX]
      clear hV1 hW2 hz1 hX hY hmkN hmkM
      refine HPT2.out.mono ?_
      rintro e w3 ⟨rfl, hr3, hb3, _⟩
      have HBM : Hid (BtM X Y Z N m 0 q s r (btv q N s r g first words) w w3) :=
        ⟨row_below HR0.out hb3 HNE.out.2.2.2.2.2.2.1, ⟨fun _ => 0, row_below HR1.out hb3 HNE.out.2.2.2.2.2.2.2⟩, hr3, HB2.out.trans (hb3.mono (by rw [hZ]; exact HB2.out.size))⟩
      clear hr3 hb3 HR0 HR1 HB2 HPT2 hZ
      have HXY := hid HNE.out
      go_wp2_with fail
      go_loopw [12, 13, 14, 15, 43] (fun _ _ _ _ iv wr => ∃ i : Nat, i ≤ N ∧ iv = .int .i64 i ∧ Hid (BtM X Y Z N m i q s r (btv q N s r g first words) w wr)) (fun _ _ _ _ iv _ => N - (intOf iv).toNat)
      case atStart => exact ⟨0, Nat.zero_le _, rfl, HBM⟩
      case round =>
        obtain ⟨i, hi, rfl, HI⟩ := hrel
        obtain ⟨wo, hwo⟩ : ∃ wo, wo = wr := ⟨_, rfl⟩
        rw [← hwo] at HI ⊢
        clear hwo wr
        by_cases hlt : i < N
        · have hlt2 : (i : Int) < (N : Int) := by omega
          have his : IntKind.i64.wrap ((i : Int) + 1) = (i : Int) + 1 := by rw [IntKind.wrap_i64]; omega
          have cz := HI.out.z.cell hlt
          obtain ⟨F, hFy⟩ := HI.out.y
          have HFY := hid hFy
          clear hFy
          obtain ⟨pt, hpt⟩ : ∃ pt, pt = Dom.pt q s r i := ⟨_, rfl⟩
          rw [← hpt] at cz
          have HPTE := hid hpt
          clear hpt
          go_wp2_with fail
          go_loopw [14, 15, 50] (fun _ _ jv wr => ∃ j : Nat, j ≤ m ∧ jv = .int .i64 j ∧ Hid (wr.rowIs Y 3 m (fun t => .int .i64 (if t < j then zat (colz words i) t else F t))) ∧ Hid (Only Y wo wr)) (fun _ _ jv _ => m - (intOf jv).toNat)
          case atStart => exact ⟨0, Nat.zero_le _, rfl, HFY.out.congr (fun t _ => by rw [if_neg (by omega)]), Only.refl _ _⟩
          case round =>
            obtain ⟨j, hj, rfl, HY1, HOn⟩ := hrel
            by_cases hlj : j < m
            · have hlj2 : (j : Int) < (m : Int) := by omega
              have hjs : IntKind.i64.wrap ((j : Int) + 1) = (j : Int) + 1 := by rw [IntKind.wrap_i64]; omega
              obtain ⟨g2, o2, ak, ck, had, hg2, hc2, hrl⟩ := HL2.out.row j (by have := HM.out; omega)
              have hbr : Below w.heap.size w wr := HI.out.bel.trans (HOn.out.below HXY.out.2.2.2.2.1)
              have hwl := wdB_at HWD.out.symm (k := j) (by have := HM.out; omega)
              obtain ⟨g5, o5, hak, hg5, hc5⟩ := hrl.row i (by omega)
              subst had hak
              have k1 := (hbr.cell (p := ⟨g2, o2 + j, none⟩) hg2).trans hc2
              have k2 := (hbr.cell (p := ⟨g5, o5 + i, none⟩) hg5).trans hc5
              rw [hwl] at k1
              have hcz : zat (rat words j) i = zat (colz words i) j := (colz_at words i j (by have := HM.out; omega)).symm
              rw [hcz] at k2
              have s1 := HY1.out.cell hlj
              have s2 := HY1.out.frozen j
              have HST : Hid ((wr.setCell ⟨Y, j, none⟩ (.int .i64 (zat (colz words i) j))).rowIs Y 3 m (fun t => .int .i64 (if t < j + 1 then zat (colz words i) t else F t))) :=
                (HY1.out.set j _).congr (fun t _ => by
                  by_cases e : t = j
                  · subst e; rw [if_pos rfl, if_pos (by omega)]
                  · rw [if_neg e]
                    by_cases h : t < j
                    · rw [if_pos h, if_pos (by omega)]
                    · rw [if_neg h, if_neg (by omega)])
              have HOS : Hid (Only Y wo (wr.setCell ⟨Y, j, none⟩ (.int .i64 (zat (colz words i) j)))) := HOn.out.setCell rfl _
              generalize zat (colz words i) j = zj at *
              clear hc2 hc5 hrl hwl hcz hbr hg2 hg5 HY1 HOn
              go_wp2_with fail
              go_roundw
              case rel => exact ⟨j + 1, by omega, by go_num, HST, HOS⟩
              case measure => simp [intOf]; omega
            · obtain rfl : j = m := by omega
              have hlj2 : ¬ (j : Int) < (j : Int) := by omega
              have hbo := HOn.out.below HXY.out.2.2.2.2.1
              have hbr : Below w.heap.size w wr := HI.out.bel.trans hbo
              have hYr : RowB wr.heap.size wr (some ⟨Y, 0, none⟩) (colz words i) := fun t ht => by
                rw [colz_len, ← HM.out] at ht
                refine ⟨Y, 0, rfl, row_lt HY1.out, ?_⟩
                rw [Nat.zero_add, HY1.out.cell ht, if_pos ht]
              have hpb := pt_bd h3 s r i
              have HBA := hid (batched_any q b d N j r s pt (zat first i) g (some ⟨Y, 0, none⟩) (colz words i) wr hpr h3 h4 ((hbr.cell (p := ⟨b, 0, none⟩) hbl).trans HP.out) (HD.out wr hbr) hN (by omega) (by rw [HPTE.out]; unfold I64; omega) (HFF.out.all i) hg (by rw [colz_len]; have := HM.out; omega) (fits_colz HF.out i) hYr)
              rw [colz_len, ← HM.out] at HBA
              have HBV : Hid (btz q (N / 8) pt (zat first i) g (colz words i) = btv q N s r g first words i) := by unfold Hid; rw [HPTE.out]; rfl
              rw [HBV.out] at HBA
              obtain ⟨g1, o1, ha1, hg1, hc1⟩ := HL1.out i (by have := HFL.out; omega)
              subst ha1
              have k1 := (hbr.cell (p := ⟨g1, o1 + i, none⟩) hg1).trans hc1
              have hXr : wr.rowIs X 3 N (ivF (btv q N s r g first words) i) := by
                obtain ⟨cs, e1, e2⟩ := HI.out.x
                exact ⟨cs, (HOn.out.block X HXY.out.1).trans e1, e2⟩
              have hZr : wr.rowIs Z 3 N (fun j => .int .i64 (Dom.pt q s r j)) := by
                obtain ⟨cs, e1, e2⟩ := HI.out.z
                exact ⟨cs, (HOn.out.block Z (Ne.symm HXY.out.2.2.1)).trans e1, e2⟩
              have HXR := hid hXr
              have HZR := hid hZr
              have HBR := hid hbr
              obtain ⟨vi, hvi⟩ : ∃ vi, vi = btv q N s r g first words i := ⟨_, rfl⟩
              rw [← hvi] at HBA
              have HVI := hid hvi
              generalize zat first i = fi at *
              clear hYr hpb hc1 hg1 hXr hZr hbr hbo hvi HBV HOn HFY
              go_wp2_with fail
              refine HBA.out.mono ?_
              rintro e w5 ⟨rfl, m5, rfl⟩
              have s1 : (wr.drewN m5).cell? ⟨X, i, none⟩ = some (ivF (btv q N s r g first words) i i) := HXR.out.cell hlt
              have s2 : (wr.drewN m5).frozen? ⟨X, i, none⟩ = false := HXR.out.frozen i
              have hX5 : (wr.drewN m5).rowIs X 3 N (ivF (btv q N s r g first words) i) := HXR.out
              have hY5 : (wr.drewN m5).rowIs Y 3 j (fun t => .int .i64 (if t < j then zat (colz words i) t else F t)) := HY1.out
              have hZ5 : (wr.drewN m5).rowIs Z 3 N (fun j => .int .i64 (Dom.pt q s r j)) := HZR.out
              have HBM5 : Hid (BtM X Y Z N j (i + 1) q s r (btv q N s r g first words) w ((wr.drewN m5).setCell ⟨X, i, none⟩ (.int .i64 vi))) :=
                ⟨(hX5.set i _).congr (fun t _ => by rw [HVI.out]; exact ivF_set _ _ _), ⟨_, row_other hY5 (Ne.symm HXY.out.1)⟩, row_other hZ5 (Ne.symm HXY.out.2.1), (below_drewN HBR.out m5).setCell (p := ⟨X, i, none⟩) HXY.out.2.2.2.1 _⟩
              generalize wr.drewN m5 = w5 at *
              clear hX5 hY5 hZ5 HBA
              go_wp2_with fail
              go_roundw
              case rel => exact ⟨i + 1, by omega, by go_num, HBM5⟩
              case measure => simp [intOf]; omega
        · obtain rfl : i = N := by omega
          have hlt2 : ¬ (i : Int) < (i : Int) := by omega
          have HE := hid (HRG.out wo X HI.out.bel HNO.out (HI.out.x.congr (fun t ht => by unfold ivF; rw [if_pos ht])))
          go_wp2_with fail
          exact HE.out
  · have HE := hid (HRB.out w (Below.refl _ _) (.inr (.inl hlf)))
    have qf : ((fl : Int) == (N : Int)) = false := by rw [beq_eq_false_iff_ne]; omega
    have qf' : ((fl : Int) != (N : Int)) = true := by rw [bne, qf]; rfl
    clear hlf
    go_enter Tryd.func8, Tryd.ntmps8
    go_wp2_with fail
    refine HS0.out.mono ?_
    rintro e w' ⟨rfl, hw'⟩
    have hw'' := hw'.symm
    subst hw''
    clear hw'
    go_wp2_with fail
    refine HS0.out.mono ?_
    rintro e w' ⟨rfl, hw'⟩
    have hw'' := hw'.symm
    subst hw''
    clear hw'
    go_wp2_with fail
    exact HE.out

end Go.Proofs.YtfppkjpgihnibaaDoor

namespace Go.Proofs.YtfppkjpgihnibaaDoor
open Go.RowKit

set_option maxRecDepth 100000 in
set_option maxHeartbeats 1000000 in
theorem rpoint_any (q i : Nat) (n r s : Int) (w : World) (h3 : 3 ≤ q) (h4 : q ≤ 2147483647) (hi : i ≤ 9223372036854775807) (hr0 : 0 ≤ r) (hr1 : r < q) (hs0 : 0 ≤ s) (hs1 : s < q) :
    Calls Tryd.prog 10 #[.agg #[.int .i64 q, .int .i64 n, .int .i64 s, .int .i64 r], .int .i64 (i : Int)] w fun e w' => e = .returned (.int .i64 (Dom.pt q s r i)) ∧ Below w.heap.size w w' := by
  have HP : Hid (∀ W, Calls Tryd.prog 24 #[.int .i64 q, .int .i64 r, .int .i64 (i : Int)] W fun e w' => e = .returned (.int .i64 (r ^ i % (q : Int))) ∧ w' = W) := fun W => by
    have h := rpow_nat q i r W h3 h4 (by omega) (by omega) hi
    rw [pwm_int q r i h3] at h
    exact h
  obtain ⟨b1, b2⟩ := emod_bounds (r ^ i) q h3
  have HM : Hid (∀ W, Calls Tryd.prog 25 #[.int .i64 q, .int .i64 (r ^ i % (q : Int)), .int .i64 s] W fun e w' => e = .returned (.int .i64 (Dom.pt q s r i)) ∧ w' = W) := fun W => by
    have h := rmul_any q (r ^ i % (q : Int)) s W h3 h4 (by omega) (by omega) (by omega) (by omega)
    rw [Int.mul_comm, Dom.pt_mul] at h
    exact h
  generalize r ^ i % (q : Int) = x at *
  generalize Dom.pt q s r i = y at *
  have HB : Hid (Below w.heap.size w (w.alloc (.cells #[.int .i64 q, .int .i64 n, .int .i64 s, .int .i64 r] 34))) := (Below.refl _ _).alloc (Nat.le_refl _) _
  go_enter Tryd.func10, Tryd.ntmps10
  go_wp2_with fail
  refine (HP.out _).mono ?_
  rintro e w1 ⟨rfl, rfl⟩
  go_wp2_with fail
  refine (HM.out _).mono ?_
  rintro e w1 ⟨rfl, rfl⟩
  go_wp2_with fail
  go_ret
  exact ⟨rfl, HB.out⟩

end Go.Proofs.YtfppkjpgihnibaaDoor

namespace Go.Proofs.YtfppkjpgihnibaaDoor
open Go.RowKit Go.Maps

end Go.Proofs.YtfppkjpgihnibaaDoor
