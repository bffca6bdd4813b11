/- attestref8.Table for any size. The law RulesTables answers true: any code shown in any number of rows, or why it is not. -/
import Derived.Test.YtaibngnabhmabajGreatDoorRvP
import Derived.Test.YtaibngnabhmabajGreatDoorBtBB
import Derived.Test.YtaibngnabhmabajGreatDoorFld
namespace Go.Proofs.YtaibngnabhmabajGreatDoor
open Go.RowKit Go.Maps

set_option maxRecDepth 100000 in
set_option maxHeartbeats 4000000 in
/-- no such table: its size -/
theorem rtable_size (p : Nat) (size n : Int) (aL : Option Addr) (cL : Nat) (L : List InsZ) (w : World) (hnL : L.length ≤ 281474976710656) (hno : n < 1 ∨ 512 < n ∨ 64 < L.length) :
    Calls Tryz.prog 25 #[.int .i64 (p : Int), .agg #[.int .i64 size, .slice aL L.length cL], .int .i64 n] w (RtR p size L n w) := by
  obtain ⟨W0, hW0⟩ : ∃ W0, W0 = w.alloc (.cells #[.int .i64 size, .slice aL L.length cL] 47) := ⟨_, rfl⟩
  have hb0 : Below w.heap.size w W0 := by rw [hW0]; exact (Below.refl _ _).alloc (Nat.le_refl _) _
  have hs0 : W0.heap[w.heap.size]? = some (.cells #[.int .i64 size, .slice aL L.length cL] 47 (0, 0)) := by rw [hW0]; exact heap_alloc_new w _
  have k1 : W0.cell? ⟨w.heap.size, 1, none⟩ = some (.slice aL L.length cL) := by simp [World.cell?, hs0]
  have HB0 := hid hb0
  have HNO := hid hno
  have HR : Hid (∀ e w', Below w.heap.size w w' → e = .returned (.tuple #[.slice none 0 0, .int .i64 0, .int .i64 2]) → RtR p size L n w e w') := fun e w' h1 h2 => ⟨h1, by rw [if_pos HNO.out]; exact h2⟩
  clear hb0 hs0
  generalize L.length = nL at *
  by_cases h1 : n < 1
  · clear HNO hno
    go_enter Tryz.func25, Tryz.ntmps25
    go_wp2_with fail
    rw [← hW0]
    clear hW0
    go_wp2_with fail
    go_ret3
    exact HR.out _ _ HB0.out rfl
  · by_cases h2 : 512 < n
    · clear HNO hno
      go_enter Tryz.func25, Tryz.ntmps25
      go_wp2_with fail
      rw [← hW0]
      clear hW0
      go_wp2_with fail
      go_ret3
      exact HR.out _ _ HB0.out rfl
    · have h3 : (64 : Int) < (nL : Int) := by omega
      clear HNO hno
      go_enter Tryz.func25, Tryz.ntmps25
      go_wp2_with fail
      rw [← hW0]
      clear hW0
      go_wp2_with fail
      go_ret3
      exact HR.out _ _ HB0.out rfl
theorem rtable_any (p : Nat) (size n : Int) (aL : Option Addr) (cL : Nat) (L : List InsZ) (w : World) (h3 : 3 ≤ p) (h4 : p ≤ 2147483647) (hnL : L.length ≤ 281474976710656) (hL : LstI w.heap.size w aL cL L) (hIB : InsB L) :
    Calls Tryz.prog 25 #[.int .i64 (p : Int), .agg #[.int .i64 size, .slice aL L.length cL], .int .i64 n] w (RtR p size L n w) := by
  by_cases h : n < 1 ∨ 512 < n ∨ 64 < L.length
  · exact rtable_size p size n aL cL L w hnL h
  · obtain ⟨N, rfl⟩ := Int.eq_ofNat_of_zero_le (show 0 ≤ n by omega)
    exact rtable_yes p N cL size aL L w h3 h4 (by omega) (by omega) (by omega) hL hIB
theorem TabG.row {p : Nat} {L : List InsZ} {st : List (List Int)} {n : Nat} {T : List (List Int)} (h : TabG p L st n T) {k : Nat} (hk : k < n) : (rat T k).length = 20 + L.length := by
  obtain ⟨_, ps, h1, rfl⟩ := h
  rw [fS_row_len _ _ _ _ (by rw [fillH_len, shns_len]; exact Nat.le_refl _), fillH_row_len (by rw [shns_len]; exact hk), shns_rat _ _ _ hk, shn_len]
/-- both tables are one -/
theorem tables_both {p : Nat} {size n : Int} {L : List InsZ} {w1 w2 : World} {e : Ending} (h : PtR p size L n w1 e w2) :
    ∃ v o z T, (T.length ≤ 512 ∧ ∀ k, k < T.length → (rat T k).length ≤ 84) ∧ e = .returned (.tuple #[v, .int .i64 o, errV z]) ∧ (∃ a c, v = .slice a T.length c ∧ LstR w2.heap.size w2 a c T) ∧ ∀ W e' W', RtR p size L n W e' W' → ∃ v', e' = .returned (.tuple #[v', .int .i64 o, .int .i64 z]) ∧ (∃ a c, v' = .slice a T.length c ∧ LstR W'.heap.size W' a c T) ∧ Below W.heap.size W W' := by
  have hnil : ∀ W : World, LstR W.heap.size W none 0 [] := fun W => ⟨fun k hk => absurd hk (Nat.not_lt_zero _), Nat.zero_le _, fun _ => rfl⟩
  obtain ⟨_, h2⟩ := h
  by_cases c1 : n < 1 ∨ 512 < n ∨ 64 < L.length
  · rw [if_pos c1] at h2
    refine ⟨_, 0, 2, [], ⟨by simp, fun k hk => absurd hk (Nat.not_lt_zero _)⟩, h2, ⟨none, 0, rfl, hnil _⟩, fun W e' W' ⟨hb, k⟩ => ?_⟩
    rw [if_pos c1] at k
    exact ⟨_, k, ⟨none, 0, rfl, hnil _⟩, hb⟩
  · rw [if_neg c1] at h2
    by_cases c2 : fz6 (p : Int) size L.length (n - 1) ≠ 0
    · rw [if_pos c2] at h2
      refine ⟨_, 0, _, [], ⟨by simp, fun k hk => absurd hk (Nat.not_lt_zero _)⟩, h2, ⟨none, 0, rfl, hnil _⟩, fun W e' W' ⟨hb, k⟩ => ?_⟩
      rw [if_neg c1, if_pos c2] at k
      exact ⟨_, k, ⟨none, 0, rfl, hnil _⟩, hb⟩
    · rw [if_neg c2] at h2
      cases hX : mwalk p size L (n - 1).toNat with
      | bad z =>
        rw [hX] at h2
        refine ⟨_, 0, z, [], ⟨by simp, fun k hk => absurd hk (Nat.not_lt_zero _)⟩, h2, ⟨none, 0, rfl, hnil _⟩, fun W e' W' ⟨hb, k⟩ => ?_⟩
        rw [if_neg c1, if_neg c2, hX] at k
        exact ⟨_, k, ⟨none, 0, rfl, hnil _⟩, hb⟩
      | good st cs =>
        rw [hX] at h2
        by_cases c3 : n.toNat < (tho p L st n.toNat).length
        · have h3 := h2
          simp only [if_pos c3] at h3
          refine ⟨_, 0, 9, [], ⟨by simp, fun k hk => absurd hk (Nat.not_lt_zero _)⟩, h3, ⟨none, 0, rfl, hnil _⟩, fun W e' W' ⟨hb, k⟩ => ?_⟩
          rw [if_neg c1, if_neg c2, hX] at k
          simp only [if_pos c3] at k
          exact ⟨_, k, ⟨none, 0, rfl, hnil _⟩, hb⟩
        · have h3 := h2
          simp only [if_neg c3] at h3
          obtain ⟨T, G, K, hT, he, hTb⟩ := h3
          refine ⟨_, outS st, 0, T, ⟨by rw [hT.len]; omega, fun k hk => by rw [hT.row (by rw [← hT.len]; exact hk)]; omega⟩, he, ⟨_, _, rfl, hTb.lst (Nat.le_refl _)⟩, fun W e' W' ⟨hb, k⟩ => ?_⟩
          rw [if_neg c1, if_neg c2, hX] at k
          simp only [if_neg c3] at k
          obtain ⟨U, G', K', cap, hU, hc, he', hTb'⟩ := k
          obtain rfl := hT.one hU
          exact ⟨_, he', ⟨_, _, rfl, hTb'.lst hc⟩, hb⟩

end Go.Proofs.YtaibngnabhmabajGreatDoor

namespace Go.Proofs.YtaibngnabhmabajGreatDoor
open Go.RowKit Go.Maps

set_option maxRecDepth 100000 in
set_option maxHeartbeats 4000000 in
theorem rtables_walk (p n size : Int) (aL : Option Addr) (cL : Nat) (L : List InsZ) (w : World) (hL : Laid w) (hp1 : -9223372036854775808 ≤ p) (hp2 : p ≤ 9223372036854775807) (hn : L.length ≤ 281474976710656) (hl : LstI w.heap.size w aL cL L) (hIB : InsB L) :
    Calls Tryz.prog 7 #[.int .i64 p, .agg #[.int .i64 size, .slice aL L.length cL], .int .i64 n] w fun e w' => e = .returned (.bool true) ∧ Below w.heap.size w w' := by
  have hmx : Tryz.prog.follows .mixedOrders = true := by kernel_rfl
  obtain ⟨W0, hW0⟩ : ∃ W0, W0 = w.alloc (.cells #[.int .i64 size, .slice aL L.length cL] 47) := ⟨_, rfl⟩
  have hb0 : Below w.heap.size w W0 := by rw [hW0]; exact (Below.refl _ _).alloc (Nat.le_refl _) _
  have hs0 : W0.heap[w.heap.size]? = some (.cells #[.int .i64 size, .slice aL L.length cL] 47 (0, 0)) := by rw [hW0]; exact heap_alloc_new w _
  have hCl : w.heap.size < W0.heap.size := (Array.getElem?_eq_some_iff.1 hs0).1
  have HB0 := hid hb0
  have HLD := hid hL
  obtain ⟨nL, hnl⟩ : ∃ nL, nL = L.length := ⟨_, rfl⟩
  have HNL := hid hnl
  have HCO : Hid (∀ W, Below W0.heap.size W0 W → W.cell? ⟨w.heap.size, 0, none⟩ = some (.int .i64 size) ∧ W.cell? ⟨w.heap.size, 1, none⟩ = some (.slice aL L.length cL)) := fun W h => by
    have := (h.block w.heap.size hCl).trans hs0
    exact ⟨by simp [World.cell?, this], by simp [World.cell?, this]⟩
  have HLW : Hid (∀ W, Below W0.heap.size W0 W → LstI W.heap.size W aL cL L) := fun W h => (hl.below (hb0.trans (h.mono hb0.size))).mono (hb0.trans (h.mono hb0.size)).size
  rw [← hnl] at hW0 HCO hn ⊢
  by_cases hok : okPrime p
  · obtain ⟨q, rfl⟩ := Int.eq_ofNat_of_zero_le (show 0 ≤ p by have := hok.1; omega)
    obtain ⟨hq3, hq4, hqp⟩ := hok
    rw [Int.toNat_natCast] at hqp
    have h3 : 3 ≤ q := by omega
    have h4 : q ≤ 2147483647 := by omega
    have HF := hid (field_yes q W0 h3 h4 hqp)
    have HP := hid hqp
    clear hb0 hs0 hnl hl hqp hL hq3 hq4 hp1 hp2
    go_enter Tryz.func7, Tryz.ntmps7
    go_wp2_with fail
    rw [← hW0]
    clear hW0
    go_wp2_with fail
    refine HF.out.mono ?_
    rintro e w1 ⟨rfl, hc1, hb1, hlt1⟩
    have HB1 := hid hb1
    obtain ⟨k0, k1⟩ := HCO.out w1 hb1
    have HTA := hid (ptable_any q W0.heap.size size n aL cL L w1 h3 h4 HP.out hc1 (by have := HNL.out; omega) (HLW.out w1 hb1) hIB)
    rw [← HNL.out] at HTA
    clear hc1 hb1 HF hlt1
    go_wp2_with fail
    refine HTA.out.mono ?_
    rintro e w2 hpt
    have hb2 := hpt.1
    obtain ⟨v, o, z, T, hTl, rfl, ⟨a1, d1, rfl, hl1⟩, hboth⟩ := tables_both hpt
    have HB2 := hid (HB1.out.trans (hb2.mono HB1.out.size))
    have HTL := hid hTl
    have HL1 := hid hl1
    have HBO := hid hboth
    obtain ⟨c0, c1⟩ := HCO.out w2 HB2.out
    have HRT := hid (rtable_any q size n aL cL L w2 h3 h4 (by have := HNL.out; omega) (HLW.out w2 HB2.out) hIB)
    rw [← HNL.out] at HRT
    have HES := hid (fun W (h : Laid W) => error_same z W h)
    clear hpt hb2 hTl hl1 hboth HTA k0 k1
    generalize errV z = ev at *
    go_wp2_with fail
    refine HRT.out.mono ?_
    rintro e w3 hrt
    obtain ⟨v', rfl, ⟨a2, d2, rfl, hl2⟩, hb3⟩ := HBO.out w2 e w3 hrt
    have HB3 := hid (HB2.out.trans (hb3.mono HB2.out.size))
    have HL13 := hid ((HL1.out.below hb3).mono hb3.size)
    have HL2 := hid hl2
    have HER := hid (HES.out w3 (HLD.out.below (HB0.out.trans (HB3.out.mono HB0.out.size))))
    clear hrt hl2 hb3 HRT HES c0 c1 HL1 HBO
    go_wp2_with fail
    refine HER.out.mono ?_
    rintro e w4 ⟨rfl, hb4⟩
    have HB4 := hid (HB3.out.trans (hb4.mono HB3.out.size))
    have HSR := hid (srows_any d1 d2 a1 a2 T T w4.heap.size w4.heap.size w4 (by have := HTL.out.1; omega) (by have := HTL.out.1; omega) (fun k hk => by have := HTL.out.2 k hk; omega) (fun k hk => by have := HTL.out.2 k hk; omega) ((HL13.out.below hb4).mono hb4.size) ((HL2.out.below hb4).mono hb4.size))
    rw [decide_eq_true rfl] at HSR
    clear hb4 HER HL13 HL2
    go_wp2_with fail
    refine HSR.out.mono ?_
    rintro e w5 ⟨rfl, k5, rfl⟩
    have HB5 := hid (below_drewN HB4.out k5)
    generalize w4.drewN k5 = w5 at *
    obtain ⟨c0, c1⟩ := HCO.out w5 HB5.out
    have HWD := hid (pwidth_any size aL nL cL w5 hn)
    clear HSR
    go_wp2_with fail
    refine HWD.out.mono ?_
    rintro e w6 ⟨rfl, hb6⟩
    have HB6 := hid (HB5.out.trans (hb6.mono HB5.out.size))
    obtain ⟨g0, g1⟩ := HCO.out w6 HB6.out
    have hww : IntKind.i64.wrap (20 + (nL : Int)) = 20 + (nL : Int) := by rw [IntKind.wrap_i64]; omega
    have hoo : (o == o) = true := by simp
    have hqq : ((20 + (nL : Int)) == (20 + (nL : Int))) = true := by simp
    have HBF := hid (HB0.out.trans (HB6.out.mono HB0.out.size))
    clear hb6 HWD c0 c1
    go_wp2_with fail
    go_ret
    exact ⟨by first | rfl | simp, HBF.out⟩
  · have HN := hid hok
    have HF := hid (field_no p W0 (HLD.out.below hb0) hok hp1 hp2)
    clear hok hb0 hs0 hnl hl hL
    go_enter Tryz.func7, Tryz.ntmps7
    go_wp2_with fail
    rw [← hW0]
    clear hW0
    go_wp2_with fail
    refine HF.out.mono ?_
    rintro e w1 ⟨rfl, hb1⟩
    have HBF := hid (HB0.out.trans (hb1.mono HB0.out.size))
    clear hb1 HF
    go_wp2_with fail
    go_ret
    exact ⟨rfl, HBF.out⟩

end Go.Proofs.YtaibngnabhmabajGreatDoor
