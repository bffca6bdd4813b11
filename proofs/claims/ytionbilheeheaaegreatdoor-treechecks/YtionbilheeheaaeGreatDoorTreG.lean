/- attestref3, the trees: Climb's Up: the tree of what is shown. -/
import Derived.Test.YtionbilheeheaaeGreatDoorTreFG
import Derived.Test.YtionbilheeheaaeGreatDoorTreFL
import Derived.Test.YtionbilheeheaaeGreatDoorTreFT
import Derived.Test.YtionbilheeheaaeGreatDoorTreFF
import Derived.StillTailTactics
namespace Go.Proofs.YtionbilheeheaaeGreatDoor
open Go.RowKit

attribute [local irreducible] wpStill

set_option maxRecDepth 100000 in
set_option maxHeartbeats 4000000 in
theorem rup_any (q n : Nat) (h5 : 5 ≤ q) (h4 : q ≤ 2147483647) (hpn : Spo.PowIs q n) (C n0 cp cr cn : Nat) (ap ar an' : Option Addr) (ps : List Int) (rows nodes : List (List Int)) (hps : ps.length ≤ 281474976710656) (hrl : rows.length = ps.length) (hnl : nodes.length ≤ 281474976710656)
    (hfr : FitsR rows) (hfn : FitsR nodes) (hnC : n0 ≤ C) : ∀ (k : Nat) (first : Int) (cnt t : Nat) (bad : Bool) (w : World), 1 ≤ cnt → cnt ≤ k → cnt ≤ 65536 → 0 ≤ first → first + (cnt : Int) ≤ 1000000000 → t ≤ 281474976710656 →
    w.rowIs C 81 6 (six (.int .i64 q) (.slice ap ps.length cp) (.slice ar rows.length cr) (.slice an' nodes.length cn) (.int .i64 t) (.bool bad)) → RowB n0 w ap ps → LstR n0 w ar cr rows → LstR n0 w an' cn nodes →
    Calls Tryz.prog 40 #[.pointer (some ⟨C, 0, none⟩), .int .i64 first, .int .i64 cnt] w (UpD C q (.slice ap ps.length cp) (.slice ar rows.length cr) (.slice an' nodes.length cn) w (upf q n ps rows nodes k first cnt t bad))
  | 0, _, cnt, _, _, _, h1, h2, _, _, _, _, _, _, _, _ => by omega
  | k + 1, first, cnt, t, bad, w, h1, h2, hcm, hf0, hf1, htm, hC, hrp, hlr, hln => by
    by_cases hsm : smb ps first (first + (cnt : Int)) = false
    · by_cases hte : nodes.length ≤ t
      · have HU : upf q n ps rows nodes (k + 1) first cnt t bad = ([0, 0, 0, 0], t, true) := by simp only [upf]; rw [if_pos hsm, if_pos (.inl hte)]
        rw [HU]
        exact rup_lack q n h5 h4 hpn C n0 cp cr cn ap ar an' ps rows nodes hps hrl hnl hfr hfn hnC first cnt t bad w hcm hf0 hf1 htm hC hrp hlr hln hsm hte
      · by_cases h44 : (rat nodes t).length = 4
        · have HU : upf q n ps rows nodes (k + 1) first cnt t bad = (elr q (rat nodes t), t + 1, bad) := by simp only [upf]; rw [if_pos hsm, if_neg (by omega)]
          rw [HU]
          exact rup_take q n h5 h4 hpn C n0 cp cr cn ap ar an' ps rows nodes hps hrl hnl hfr hfn hnC first cnt t bad w hcm hf0 hf1 htm hC hrp hlr hln hsm (by omega) h44
        · have HU : upf q n ps rows nodes (k + 1) first cnt t bad = ([0, 0, 0, 0], t, true) := by simp only [upf]; rw [if_pos hsm, if_pos (.inr h44)]
          rw [HU]
          exact rup_odd q n h5 h4 hpn C n0 cp cr cn ap ar an' ps rows nodes hps hrl hnl hfr hfn hnC first cnt t bad w hcm hf0 hf1 htm hC hrp hlr hln hsm (by omega) h44
    · have hsm2 : smb ps first (first + (cnt : Int)) = true := by simpa using hsm
      by_cases hone : cnt = 1
      · have HU : upf q n ps rows nodes (k + 1) first cnt t bad = (digl q n (0 :: rat rows (fx ps first)), t, bad) := by simp only [upf]; rw [if_neg hsm, if_pos hone]
        rw [HU]
        exact rup_leaf q n h5 h4 hpn C n0 cp cr cn ap ar an' ps rows nodes hps hrl hnl hfr hfn hnC first cnt t bad w hcm hf0 hf1 htm hC hrp hlr hln hsm2 hone
      · obtain ⟨_, l2, l3⟩ := lft_spec cnt
        have l3' := l3 (by omega)
        have HSM := hid (rsome_any cp ap ps first (first + (cnt : Int)) w hps (hrp.mono (by have := hC.lt; omega)))
        rw [hsm2] at HSM
        have hw1 : IntKind.i64.wrap (first + (cnt : Int)) = first + (cnt : Int) := by rw [IntKind.wrap_i64]; omega
        have HLF := hid (fun W : World => rleft_any cnt W (by omega))
        obtain ⟨m, hm⟩ : ∃ m, m = lft cnt := ⟨_, rfl⟩
        have HU : Hid (upf q n ps rows nodes (k + 1) first cnt t bad = (digl q n (1 :: ((upf q n ps rows nodes k first m t bad).1 ++ (upf q n ps rows nodes k (first + (m : Int)) (cnt - m) (upf q n ps rows nodes k first m t bad).2.1 (upf q n ps rows nodes k first m t bad).2.2).1)), (upf q n ps rows nodes k (first + (m : Int)) (cnt - m) (upf q n ps rows nodes k first m t bad).2.1 (upf q n ps rows nodes k first m t bad).2.2).2)) := by unfold Hid; rw [hm]; simp only [upf]; rw [if_neg hsm, if_neg hone]
        rw [HU.out]
        rw [← hm] at HLF l2 l3'
        have HIA := hid (rup_any q n h5 h4 hpn C n0 cp cr cn ap ar an' ps rows nodes hps hrl hnl hfr hfn hnC k first m t bad w (by omega) (by omega) (by omega) hf0 (by omega) htm hC hrp hlr hln)
        have hCl := hC.lt
        have HT1 : Hid ((upf q n ps rows nodes k first m t bad).2.1 ≤ 281474976710656) := upf_t q n ps rows nodes _ hnl k first m t bad htm
        have HL1 := hid (upf_len q n ps rows nodes k first m t bad (by omega))
        have HF1 := hid (upf_fits (show 3 ≤ q by omega) h4 n ps rows nodes k first m t bad)
        obtain ⟨A, hA⟩ : ∃ A, A = upf q n ps rows nodes k first m t bad := ⟨_, rfl⟩
        rw [← hA] at HIA HT1 HL1 HF1 ⊢
        have HIB : Hid (∀ W : World, w.grownBy W (some C) → W.rowIs C 81 6 (six (.int .i64 q) (.slice ap ps.length cp) (.slice ar rows.length cr) (.slice an' nodes.length cn) (.int .i64 A.2.1) (.bool A.2.2)) → Calls Tryz.prog 40 #[.pointer (some ⟨C, 0, none⟩), .int .i64 (first + (m : Int)), .int .i64 ((cnt - m : Nat) : Int)] W (UpD C q (.slice ap ps.length cp) (.slice ar rows.length cr) (.slice an' nodes.length cn) W (upf q n ps rows nodes k (first + (m : Int)) (cnt - m) A.2.1 A.2.2))) := fun W hg hW =>
          rup_any q n h5 h4 hpn C n0 cp cr cn ap ar an' ps rows nodes hps hrl hnl hfr hfn hnC k (first + (m : Int)) (cnt - m) A.2.1 A.2.2 W (by omega) (by omega) (by omega) (by omega) (by omega) HT1.out hW (hrp.below (below_of_gb hg hnC hCl)) (hlr.below (below_of_gb hg hnC hCl)) (hln.below (below_of_gb hg hnC hCl))
        have HL2 := hid (upf_len q n ps rows nodes k (first + (m : Int)) (cnt - m) A.2.1 A.2.2 (by omega))
        have HF2 := hid (upf_fits (show 3 ≤ q by omega) h4 n ps rows nodes k (first + (m : Int)) (cnt - m) A.2.1 A.2.2)
        obtain ⟨B, hB⟩ : ∃ B, B = upf q n ps rows nodes k (first + (m : Int)) (cnt - m) A.2.1 A.2.2 := ⟨_, rfl⟩
        rw [← hB] at HIB HL2 HF2 ⊢
        have hob : ((cnt : Int) == 1) = false := by rw [beq_eq_false_iff_ne]; omega
        have hw2 : IntKind.i64.wrap (first + (m : Int)) = first + (m : Int) := by rw [IntKind.wrap_i64]; omega
        have hw3 : (cnt : Int) - (m : Int) = ((cnt - m : Nat) : Int) := by omega
        have hw4 : IntKind.i64.wrap ((cnt - m : Nat) : Int) = ((cnt - m : Nat) : Int) := by rw [IntKind.wrap_i64]; omega
        have HPN := hid hpn
        have HCE : Hid (∀ i, i < 6 → w.cell? ⟨C, i, none⟩ = some (six (.int .i64 q) (.slice ap ps.length cp) (.slice ar rows.length cr) (.slice an' nodes.length cn) (.int .i64 t) (.bool bad) i)) := fun i hi => hC.cell hi
        have c1 := HCE.out 1 (by omega)
        simp only [six] at c1
        clear hC hrp hlr hln hfr hfn hpn hsm hsm2 HU hone h1 h2 hA hB hm l3 HT1
        generalize cnt - m = dm at *
        go_enter Tryz.func40, Tryz.ntmps40
        go_wp2_with fail
        refine HSM.out.mono ?_
        rintro e w1 ⟨rfl, rfl⟩
        go_wp2_with fail
        refine (HLF.out _).mono ?_
        rintro e w2 ⟨rfl, rfl⟩
        go_wp2_with fail
        refine HIA.out.mono ?_
        rintro e w3 ⟨g1, N1, rfl, h61, h62, h63, h64⟩
        have HG3 := hid h64
        have HS3 := hid h63
        have HD3 := hid h62
        have hge1 := h61
        clear h62 h63 h64 h61
        go_wp2_with fail
        refine (HIB.out _ HG3.out HS3.out).mono ?_
        rintro e w4 ⟨g2, N2, rfl, h61, h62, h63, h64⟩
        have HG4 := hid h64
        have HS4 := hid h63
        have HD4 := hid h62
        have HD5 : Hid (LstD w4 g1 N1 A.1) := HD3.out.gb h64 (by omega)
        have c0 := h63.cell (i := 0) (by omega)
        simp only [six] at c0
        have hge2 : w2.heap.size ≤ g2 := Nat.le_trans HG3.out.size h61
        have HCl4 : Hid (C < w4.heap.size) := h63.lt
        have HND := hid (rnode_any q n N1 N2 (some ⟨g1, 0, none⟩) (some ⟨g2, 0, none⟩) A.1 B.1 w4 h5 h4 HPN.out (by rw [HL1.out, HL2.out]; omega) HF1.out HF2.out HD5.out.1 HD4.out.1)
        rw [HL1.out, HL2.out] at HND
        clear h61 h62 h63 h64
        go_wp2_with fail
        refine HND.out.mono ?_
        rintro e w5 ⟨g, N, rfl, h6, h7, h8⟩
        have HE : Hid (w2.heap.size ≤ g ∧ LstD w5 g N (digl q n (1 :: (A.1 ++ B.1))) ∧ w5.rowIs C 81 6 (six (.int .i64 q) (.slice ap ps.length cp) (.slice ar rows.length cr) (.slice an' nodes.length cn) (.int .i64 B.2.1) (.bool B.2.2)) ∧ w2.grownBy w5 (some C)) :=
          ⟨Nat.le_trans HG3.out.size (Nat.le_trans HG4.out.size h6), h7, HS4.out.of_block (h8.block C HCl4.out), gb_trans HG3.out (gb_trans HG4.out (gb_below h8))⟩
        clear h6 h7 h8
        go_wp2_with fail
        go_ret
        exact ⟨g, N, rfl, HE.out.1, HE.out.2.1, HE.out.2.2.1, HE.out.2.2.2⟩

end Go.Proofs.YtionbilheeheaaeGreatDoor
