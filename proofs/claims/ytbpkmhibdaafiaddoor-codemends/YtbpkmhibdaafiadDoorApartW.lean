/- attestlaw2.apart: at which places that are not gone a polynomial is not what the word is. -/
import Derived.Test.YtbpkmhibdaafiadDoorCodG
import Derived.Test.YtbpkmhibdaafiadDoorSitC
namespace Go.Proofs.YtbpkmhibdaafiadDoor
open Go.RowKit

set_option maxRecDepth 100000 in
set_option maxHeartbeats 4000000 in
theorem apart_any (q n k c1 c2 c3 : Nat) (r s : Int) (a1 a2 a3 : Option Addr) (ws gs zs : List Int) (w : World) (h3 : 3 ≤ q) (h4 : q ≤ 2147483647) (hn0 : 0 < n) (hn : n ≤ 65536) (hr0 : 0 ≤ r) (hr1 : r < q) (hs0 : 0 ≤ s) (hs1 : s < q) (hkn : k ≤ n)
    (hw : ws.length = n) (hgl : gs.length ≤ 281474976710656) (hzl : zs.length ≤ 281474976710656) (hf1 : Fits ws) (hf2 : Fits gs) (hf3 : Fits zs) (hl1 : RowB w.heap.size w a1 ws) (hl2 : RowB w.heap.size w a2 gs) (hl3 : RowB w.heap.size w a3 zs) :
    Calls Tryd.prog 16 #[.agg #[.int .i64 q, .int .i64 n, .int .i64 s, .int .i64 r], .int .i64 k, .slice a1 n c1, .slice a2 gs.length c2, .slice a3 zs.length c3] w fun e w' => ∃ (a : Option Addr) (c : Nat),
      e = .returned (.tuple #[.slice a (pk (wq q (gk gs gs.length) (fun j => evz q zs (Dom.pt q s r j)) ws) (fun j => (j : Int)) n).length c, .bool (decide (2 * off q n r s (gk gs gs.length) ws zs + Cod.cnt (gk gs gs.length) n ≤ n - k))]) ∧
      Lst w'.heap.size w' a c (pk (wq q (gk gs gs.length) (fun j => evz q zs (Dom.pt q s r j)) ws) (fun j => (j : Int)) n) ∧ Below w.heap.size w w' := by
  obtain ⟨i0, hi, hz0, hz1, hz2⟩ := info_parts Tryd.infoInt
  have HF1 := hid hf1
  have HF2 := hid hf2
  have HR1 := hid hl1
  have HR2 := hid hl2
  have HR3 := hid hl3
  have HF3 := hid hf3
  have HOF : Hid (off q n r s (gk gs gs.length) ws zs = (pk (wq q (gk gs gs.length) (fun j => evz q zs (Dom.pt q s r j)) ws) (fun j => (j : Int)) n).length) := (pk_len _ _ _).symm
  have HVB : Hid (∀ j, 0 ≤ evz q zs (Dom.pt q s r j) ∧ evz q zs (Dom.pt q s r j) < q) := fun j => evz_bounds q zs _ h3
  have HRV : Hid (∀ W : World, RowB W.heap.size W a3 zs → Calls Tryd.prog 11 #[.agg #[.int .i64 q, .int .i64 n, .int .i64 s, .int .i64 r], .slice a3 zs.length c3] W fun e w' => ∃ (g N : Nat) (F : Nat → Value),
      e = .returned (.slice (some ⟨g, 0, none⟩) n N) ∧ W.heap.size ≤ g ∧ w'.rowIs g 3 N F ∧ n ≤ N ∧ (∀ j, j < n → F j = .int .i64 (evz q zs (Dom.pt q s r j))) ∧ Below W.heap.size W w') := fun W h => rvalues_any q n c3 r s a3 zs W h3 h4 hn0 hn hr0 hr1 hs0 hs1 hzl hf3 h
  have HGD : Hid (∀ m j, gk gs (m + 1) j = (gk gs m j || (zat gs m == (j : Int)))) := fun _ _ => rfl
  have HG0 : Hid (∀ j, gk gs 0 j = false) := fun _ => rfl
  obtain ⟨V, hV⟩ : ∃ V, V = fun j => evz q zs (Dom.pt q s r j) := ⟨_, rfl⟩
  have HVE : Hid (∀ j, evz q zs (Dom.pt q s r j) = V j) := fun j => by rw [hV]
  rw [← hV] at HOF ⊢
  rw [HOF.out]
  simp only [HVE.out] at HVB HRV
  obtain ⟨P, hP⟩ : ∃ P, P = wq q (gk gs gs.length) V ws := ⟨_, rfl⟩
  have HPD : Hid (∀ j, P j = (!(gk gs gs.length j) && !(V j == zat ws j % (q : Int)))) := fun j => by rw [hP]; rfl
  rw [← hP]
  clear hf1 hf2 hf3 hl1 hl2 hl3 hV hP HOF HVE
  go_enter Tryd.func16, Tryd.ntmps16
  go_wp2_with fail
  have HC0 : Hid ((w.alloc (.cells #[.int .i64 q, .int .i64 n, .int .i64 s, .int .i64 r] 31)).cell? ⟨w.heap.size, 0, none⟩ = some (.int .i64 q)) := by unfold Hid; simp
  have HC1 : Hid ((w.alloc (.cells #[.int .i64 q, .int .i64 n, .int .i64 s, .int .i64 r] 31)).cell? ⟨w.heap.size, 1, none⟩ = some (.int .i64 n)) := by unfold Hid; simp
  have HB0 : Hid (Below w.heap.size w (w.alloc (.cells #[.int .i64 q, .int .i64 n, .int .i64 s, .int .i64 r] 31))) := (Below.refl _ _).alloc (Nat.le_refl _) _
  have hs0x : w.heap.size < (w.alloc (.cells #[.int .i64 q, .int .i64 n, .int .i64 s, .int .i64 r] 31)).heap.size := by simp
  refine (HRV.out _ ((HR3.out.below HB0.out).mono HB0.out.size)).mono ?_
  generalize w.alloc (.cells #[.int .i64 q, .int .i64 n, .int .i64 s, .int .i64 r] 31) = WA at *
  rintro e W0 ⟨g, N, F, rfl, hg, hri, hnN, hF, hb1⟩
  have HC0' := hid ((hb1.cell (p := ⟨w.heap.size, 0, none⟩) hs0x).trans HC0.out)
  have HC1' := hid ((hb1.cell (p := ⟨w.heap.size, 1, none⟩) hs0x).trans HC1.out)
  have HB1 : Hid (Below w.heap.size w W0) := HB0.out.trans (hb1.mono HB0.out.size)
  have hlt0 : w.heap.size < W0.heap.size := by have := hb1.size; omega
  have hgl0 : g < W0.heap.size := hri.lt
  have HFV : Hid (∀ j, j < n → W0.cell? ⟨g, j, none⟩ = some (.int .i64 (V j))) := fun j hj => by rw [← hF j hj]; exact hri.cell (by omega)
  have HW1 := hid ((HR1.out.below HB1.out).mono HB1.out.size)
  have HG1 := hid ((HR2.out.below HB1.out).mono HB1.out.size)
  clear hri hF hb1 HRV HC0 HC1 HB0 HR1 HR2 HR3 hs0x hg hnN
  go_wp2_with fail
  go_loopw [13, 14, 15] (fun wv lv iv wr => ∃ i : Nat, i ≤ n ∧ iv = .int .i64 i ∧ lv = .int .i64 (Cod.cnt (gk gs gs.length) i : Nat) ∧ wr.ownsRow W0.heap.size 3 1 wv (pk P (fun j => (j : Int)) i).length ((pk P (fun j => (j : Int)) i).map (Value.int .i64)) ∧ Below W0.heap.size W0 wr)
    (fun _ _ iv _ => n - (intOf iv).toNat)
  case atStart => exact ⟨0, Nat.zero_le _, rfl, rfl, World.ownsRow_nil _ _ _ _, Below.refl _ _⟩
  case round =>
    obtain ⟨i, hin, rfl, rfl, hown, hbel⟩ := hrel
    obtain ⟨wo, rfl⟩ : ∃ wo, wo = wr := ⟨_, rfl⟩
    have hsz := hbel.size
    have d0 := (hbel.cell (p := ⟨w.heap.size, 0, none⟩) hlt0).trans HC0'.out
    have d1 := (hbel.cell (p := ⟨w.heap.size, 1, none⟩) hlt0).trans HC1'.out
    have hcl := Cod.cnt_le (gk gs gs.length) i
    by_cases hlt : i < n
    · have hlt2 : (i : Int) < (n : Int) := by omega
      have HGW : Hid (RowB W0.heap.size wo a2 gs) := HG1.out.below hbel
      have HPK : Hid (pk P (fun j => (j : Int)) (i + 1) = if P i then pk P (fun j => (j : Int)) i ++ [(i : Int)] else pk P (fun j => (j : Int)) i) := rfl
      have hpl3 : (pk P (fun j => (j : Int)) i).length ≤ 65536 := by
        have := pk_len P (fun j => (j : Int)) i
        have := Cod.cnt_le P i
        omega
      have HPI := hid (HPD.out i)
      have HCS : Hid (Cod.cnt (gk gs gs.length) (i + 1) = Cod.cnt (gk gs gs.length) i + (if gk gs gs.length i then 1 else 0)) := rfl
      obtain ⟨cn, hcn⟩ : ∃ cn, cn = Cod.cnt (gk gs gs.length) (i + 1) := ⟨_, rfl⟩
      have HCN := hid hcn
      rw [← hcn] at HCS
      generalize Cod.cnt (gk gs gs.length) i = ck at *
      generalize P i = pi at *
      generalize pk P (fun j => (j : Int)) i = lk at *
      clear hcn
      go_wp2_with fail
      go_loop [16, 17] (fun kv jv => ∃ j : Nat, j ≤ gs.length ∧ jv = .int .i64 j ∧ kv = .bool (!(gk gs j i))) (fun _ jv => gs.length - (intOf jv).toNat)
      case atStart => exact ⟨0, Nat.zero_le _, rfl, by rw [HG0.out]; rfl⟩
      case round =>
        obtain ⟨j, hj, rfl, rfl⟩ := hrel
        by_cases hjl : j < gs.length
        · have hjl2 : (j : Int) < (gs.length : Int) := by omega
          have HGS := hid (HGD.out j i)
          obtain ⟨bl, ol, rfl, hbl, hcl2⟩ := HGW.out j hjl
          obtain ⟨y1, y2⟩ := HF2.out j hjl
          generalize zat gs j = y at *
          cases hgj : gk gs j i with
          | true =>
            rw [hgj] at HGS
            go_wp2_with fail
            go_round
            case rel => exact ⟨j + 1, by omega, by go_num, by rw [HGS.out]; rfl⟩
            case measure => simp [intOf]; omega
          | false =>
            rw [hgj] at HGS
            by_cases hy : y = (i : Int)
            · have hyb : (y != (i : Int)) = false := by rw [hy]; simp
              have HGT : Hid (gk gs (j + 1) i = true) := by unfold Hid; rw [HGS.out, hy]; simp
              clear hy
              go_wp2_with fail
              go_round
              case rel => exact ⟨j + 1, by omega, by go_num, by rw [HGT.out]; rfl⟩
              case measure => simp [intOf]; omega
            · have hyb : (y != (i : Int)) = true := by rw [bne_iff_ne]; exact hy
              have HGT : Hid (gk gs (j + 1) i = false) := by unfold Hid; rw [HGS.out, beq_eq_false_iff_ne.2 hy]; rfl
              clear hy
              go_wp2_with fail
              go_round
              case rel => exact ⟨j + 1, by omega, by go_num, by rw [HGT.out]; rfl⟩
              case measure => simp [intOf]; omega
        · have hjl2 : ¬ (j : Int) < (gs.length : Int) := by omega
          obtain rfl : j = gs.length := by omega
          obtain ⟨bl, ol, rfl, hbl, hcl1⟩ := HW1.out i (by omega)
          have hcl2 := (hbel.cell (p := ⟨bl, ol + i, none⟩) hbl).trans hcl1
          have hv2 := (hbel.cell (p := ⟨g, i, none⟩) hgl0).trans (HFV.out i hlt)
          obtain ⟨y1, y2⟩ := HF1.out i (by omega)
          obtain ⟨v1, v2⟩ := HVB.out i
          have HRO : Hid (∀ W : World, Calls Tryd.prog 12 #[.int .i64 q, .int .i64 (zat ws i)] W fun e w' => e = .returned (.int .i64 (zat ws i % (q : Int))) ∧ w' = W) := fun W => rof_any q _ W h3 h4 y1 y2
          clear hcl1
          generalize zat ws i % (q : Int) = ym at *
          generalize zat ws i = y at *
          generalize V i = vk at *
          cases hgi : gk gs gs.length i with
          | true =>
            rw [hgi] at HPI HCS
            have hcn1 : cn = ck + 1 := by rw [HCS.out]; simp
            have hpi : pi = false := by rw [HPI.out]; rfl
            rw [hpi] at HPK
            simp only [Bool.false_eq_true, if_false] at HPK
            clear hpi
            go_wp2_with fail
            go_quiet (first
              | (go_at_call 12; exact Calls.quiet_of_same (HRO.out _)))
            have hown' : World.ownsRow (wo.drewN nq) W0.heap.size 3 1 _ lk.length (lk.map (Value.int .i64)) := hown
            have hbel' : Below W0.heap.size W0 (wo.drewN nq) := below_drewN hbel nq
            have hsz' : W0.heap.size ≤ (wo.drewN nq).heap.size := hsz
            have hv3 : (wo.drewN nq).cell? ⟨g, i, none⟩ = some (.int .i64 vk) := hv2
            clear hown hbel hsz d0 d1 hcl2 hv2
            generalize wo.drewN nq = X at *
            have HO := hid hown'
            have HB := hid hbel'
            clear hown' hbel' hsz' hv3
            go_wp2_with fail
            go_roundw
            case rel => exact ⟨i + 1, by omega, by go_num, by rw [← HCN.out]; go_num, by rw [HPK.out]; exact HO.out, HB.out⟩
            case measure => simp [intOf]; omega
          | false =>
            rw [hgi] at HPI HCS
            have HCS2 : Hid (cn = ck) := by unfold Hid; rw [HCS.out]; simp
            by_cases he : ym = vk
            · have heb : (ym != vk) = false := by rw [he]; simp
              have hpi : pi = false := by rw [HPI.out, he]; simp
              rw [hpi] at HPK
              simp only [Bool.false_eq_true, if_false] at HPK
              clear hpi he
              go_wp2_with fail
              go_quiet (first
                | (go_at_call 12; exact Calls.quiet_of_same (HRO.out _)))
              have hown' : World.ownsRow (wo.drewN nq) W0.heap.size 3 1 _ lk.length (lk.map (Value.int .i64)) := hown
              have hbel' : Below W0.heap.size W0 (wo.drewN nq) := below_drewN hbel nq
              have hsz' : W0.heap.size ≤ (wo.drewN nq).heap.size := hsz
              have hv3 : (wo.drewN nq).cell? ⟨g, i, none⟩ = some (.int .i64 vk) := hv2
              clear hown hbel hsz d0 d1 hcl2 hv2
              generalize wo.drewN nq = X at *
              have HO := hid hown'
              have HB := hid hbel'
              clear hown' hbel' hsz'
              go_wp2_with fail
              go_roundw
              case rel => exact ⟨i + 1, by omega, by go_num, by rw [← HCN.out, HCS2.out], by rw [HPK.out]; exact HO.out, HB.out⟩
              case measure => simp [intOf]; omega
            · have heb : (ym != vk) = true := by rw [bne_iff_ne]; exact he
              have hpi : pi = true := by rw [HPI.out, show (vk == ym) = false from by rw [beq_eq_false_iff_ne]; exact fun h => he h.symm]; rfl
              rw [hpi] at HPK
              simp only [if_true] at HPK
              clear hpi he
              go_wp2_with fail
              go_quiet (first
                | (go_at_call 12; exact Calls.quiet_of_same (HRO.out _)))
              have hown' : World.ownsRow (wo.drewN nq) W0.heap.size 3 1 _ lk.length (lk.map (Value.int .i64)) := hown
              have hbel' : Below W0.heap.size W0 (wo.drewN nq) := below_drewN hbel nq
              have hsz' : W0.heap.size ≤ (wo.drewN nq).heap.size := hsz
              have hv3 : (wo.drewN nq).cell? ⟨g, i, none⟩ = some (.int .i64 vk) := hv2
              clear hown hbel hsz d0 d1 hcl2 hv2
              generalize wo.drewN nq = X at *
              go_wp2_with (at_builtin; refine wpList_append_own _ rfl _ _ 22 rfl W0.heap.size 3 i0 (.int .i64 0) 1 8 Tryd.underlying22 hi hz0 hz1 hz2 rfl (by decide) _ _ _ rfl (hown'.alloc _) ⟨X.heap.size, 0, none⟩ 1 1 [.int .i64 i] rfl rfl ?c1 ?c2 ?c3 ?c4 ?c5 ?_)
              case c1 =>
                intro j u hj
                match j, hj with
                | 0, hj => simp at hj; subst hj; simp [Addr.add]
              case c2 => intro u hu; simp at hu; subst hu; rfl
              case c3 => unfold maxLen; omega
              case c4 => omega
              case c5 => simp; omega
              intro v' w5 hown2 hgrow _
              have hown3 := owns_succ hown2
              have HB : Hid (Below W0.heap.size W0 w5) := (hbel'.alloc hsz' _).grown hgrow (by simp; omega) (fun k hk => (hown'.lt k hk).1)
              have HO := hid hown3
              clear hown2 hown3 hgrow hown' hbel'
              go_wp2_with fail
              go_roundw
              case rel => exact ⟨i + 1, by omega, by go_num, by rw [← HCN.out, HCS2.out], by rw [HPK.out]; exact HO.out, HB.out⟩
              case measure => simp [intOf]; omega
    · have hlt2 : ¬ (i : Int) < (n : Int) := by omega
      obtain rfl : i = n := by omega
      obtain ⟨a, c, rfl, hl⟩ := lst_of_owns hown
      have HL := hid hl
      have HB : Hid (Below w.heap.size w wo) := HB1.out.trans (hbel.mono (by omega))
      have hpl : (pk P (fun j => (j : Int)) i).length ≤ 65536 := by
        have := pk_len P (fun j => (j : Int)) i
        have := Cod.cnt_le P i
        omega
      have HDE : Hid (decide (2 * ((pk P (fun j => (j : Int)) i).length : Int) + (Cod.cnt (gk gs gs.length) i : Int) ≤ (i : Int) - (k : Int)) = decide (2 * (pk P (fun j => (j : Int)) i).length + Cod.cnt (gk gs gs.length) i ≤ i - k)) := by
        unfold Hid
        rw [decide_eq_decide]
        omega
      clear hown hl hbel
      go_wp2_with fail
      go_quiet (fail)
      go_wp2_with fail
      go_ret2
      exact ⟨a, c, by rw [← HDE.out]; rfl, HL.out.below (below_drewN (Below.refl wo.heap.size wo) nq), below_drewN HB.out nq⟩

end Go.Proofs.YtbpkmhibdaafiadDoor
