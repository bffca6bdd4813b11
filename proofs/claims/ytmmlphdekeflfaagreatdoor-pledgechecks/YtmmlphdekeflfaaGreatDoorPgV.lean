/- attestref12: Check, where it can be told. -/
import Derived.Test.YtmmlphdekeflfaaGreatDoorPcBA
namespace Go.Proofs.YtmmlphdekeflfaaGreatDoor
open Go.RowKit

theorem insz_len (x : Int) (l : List Int) : (insz x l).length ≤ l.length + 1 := by
  induction l with
  | nil => simp [insz]
  | cons y r ih =>
    unfold insz
    split
    · simp
    · split
      · simp
      · simp only [List.length_cons]; omega
theorem onc_len (l : List Int) : (onc l).length ≤ l.length := by
  unfold onc
  induction l with
  | nil => simp
  | cons y r ih =>
    simp only [List.foldr_cons, List.length_cons]
    have := insz_len y (r.foldr insz [])
    omega
theorem pgSh_shz (q n N hi : Nat) (root ps pl : List Int) (rows nodes : List (List Int)) : shz5 q n root (N : Int) ps rows nodes pl ((2 ^ hi : Nat) : Int) = pgSh q n N hi root ps pl rows nodes := by
  unfold shz5 pgSh
  rw [Bool.and_assoc]
  congr 1
  congr 1
  rw [Bool.eq_iff_iff, decide_eq_true_eq]
  constructor
  · intro h
    exact wiB_yes (fun k hk => by have := h k hk; omega)
  · intro h k hk
    rw [wiB_at h hk]

set_option maxRecDepth 100000 in
set_option maxHeartbeats 8000000 in
theorem rcheck12_yes (q n rc N v a : Nat) (r t : Int) (A : PlA) (o : Plg) (a4 : Option Addr) (c4 : Nat) (at' D : List Int) (w : World) (h5 : 5 ≤ q) (h4 : q ≤ 2147483647) (hpn : Spo.PowIs q n) (hr0 : 0 ≤ r) (hr1 : r < q) (ht0 : 0 ≤ t) (ht1 : t < q) (hN1 : 1 ≤ N) (hN2 : N ≤ 65536) (hch : RCh q w rc D) (hD : Dig D)
    (RO : ∀ W, w.grownBy W (some rc) → PlW W A o ∧ Lst W.heap.size W a4 c4 at') (F : PlF o.root o.mixed o.point o.ps o.rows o.nodes at')
    (hv : v ≤ 12) (hfit : 2 ^ (v - v / 2) ≤ N / 2) (hat : at'.length = v) (ha1 : 1 ≤ a) (ha : a ≤ 64) (h4r : o.root.length = 4) (hmx : o.mixed.length = 2 ^ (v - v / 2)) (hpt : o.point.length = 2 ^ (v - v / 2)) :
    Calls Tryz.prog 27 #[.pointer (some ⟨rc, 0, none⟩), .agg #[.int .i64 q, .int .i64 (N : Int), .int .i64 t, .int .i64 r], .int .i64 (v : Int), .slice a4 at'.length c4, .int .i64 (a : Int), .agg (plC A o)] w fun e w' =>
      (pgSh q n N (v / 2) o.root o.ps (pgP q n N a (pgE q n o.mixed o.point (pgD q n o.root at' D))) o.rows o.nodes = true ∧ agB q N r t o.mixed o.ps o.rows (fun l => evz q l (zat (pgD q n o.root at' D) 0)) = true ∧ agB q N r t o.point o.ps o.rows (fun l => dtz q l.length l (wgL q (at'.take (v / 2)))) = true →
        e = .returned (.tuple #[.int .i64 (dtz q o.point.length o.point (wgL q (at'.drop (v / 2)))), .bool true])) ∧
      (¬ (pgSh q n N (v / 2) o.root o.ps (pgP q n N a (pgE q n o.mixed o.point (pgD q n o.root at' D))) o.rows o.nodes = true ∧ agB q N r t o.mixed o.ps o.rows (fun l => evz q l (zat (pgD q n o.root at' D) 0)) = true ∧ agB q N r t o.point o.ps o.rows (fun l => dtz q l.length l (wgL q (at'.take (v / 2)))) = true) →
        e = .returned (.tuple #[.int .i64 0, .bool false])) ∧ w.grownBy w' (some rc) := by
  have h3 : 3 ≤ q := by omega
  obtain ⟨W1, hW1⟩ : ∃ W1, W1 = (w.alloc (.cells #[.int .i64 q, .int .i64 (N : Int), .int .i64 t, .int .i64 r] 39)).alloc (.cells (plC A o) 51) := ⟨_, rfl⟩
  have hb1 : Below w.heap.size w W1 := by rw [hW1]; exact ((Below.refl _ _).alloc (Nat.le_refl _) _).alloc (by simp) _
  obtain ⟨M, hM⟩ : ∃ M, M = w.heap.size := ⟨_, rfl⟩
  obtain ⟨P, hPP⟩ : ∃ P, P = w.heap.size + 1 := ⟨_, rfl⟩
  have hs1 : W1.heap[M]? = some (.cells #[.int .i64 q, .int .i64 (N : Int), .int .i64 t, .int .i64 r] 39 (0, 0)) := by
    rw [hW1, hM]
    have := heap_alloc_new w (.cells #[.int .i64 q, .int .i64 (N : Int), .int .i64 t, .int .i64 r] 39)
    have hb := (Below.refl (w.alloc (.cells #[.int .i64 q, .int .i64 (N : Int), .int .i64 t, .int .i64 r] 39)).heap.size (w.alloc (.cells #[.int .i64 q, .int .i64 (N : Int), .int .i64 t, .int .i64 r] 39))).alloc (Nat.le_refl _) (.cells (plC A o) 51)
    exact (hb.block _ (by simp)).trans this
  have hs2 : W1.heap[P]? = some (.cells (plC A o) 51 (0, 0)) := by
    rw [hW1, hPP]
    have := heap_alloc_new (w.alloc (.cells #[.int .i64 q, .int .i64 (N : Int), .int .i64 t, .int .i64 r] 39)) (.cells (plC A o) 51)
    simpa using this
  have hrl := hch.lt
  have hMr : M ≠ rc := by omega
  have hPr : P ≠ rc := by omega
  have HK : Hid (∀ W, W1.grownBy W (some rc) → (W.cell? ⟨M, 0, none⟩ = some (.int .i64 q) ∧ W.cell? ⟨M, 1, none⟩ = some (.int .i64 (N : Int)) ∧ W.cell? ⟨M, 2, none⟩ = some (.int .i64 t) ∧ W.cell? ⟨M, 3, none⟩ = some (.int .i64 r)) ∧ (W.cell? ⟨P, 0, none⟩ = some (.slice A.a1 o.root.length A.c1) ∧ W.cell? ⟨P, 1, none⟩ = some (.slice A.a2 o.mixed.length A.c2) ∧ W.cell? ⟨P, 2, none⟩ = some (.slice A.a3 o.point.length A.c3) ∧ W.cell? ⟨P, 3, none⟩ = some (.slice A.ap o.ps.length A.cp) ∧ W.cell? ⟨P, 4, none⟩ = some (.slice A.ar o.rows.length A.cr) ∧ W.cell? ⟨P, 5, none⟩ = some (.slice A.an o.nodes.length A.cn)) ∧ w.grownBy W (some rc)) := fun W hW => by
    have e1 := (gb_blk hW (Array.getElem?_eq_some_iff.1 hs1).1 hMr).trans hs1
    have e2 := (gb_blk hW (Array.getElem?_eq_some_iff.1 hs2).1 hPr).trans hs2
    refine ⟨⟨?_, ?_, ?_, ?_⟩, ⟨?_, ?_, ?_, ?_, ?_, ?_⟩, gb_trans (gb_below hb1) hW⟩ <;> simp [World.cell?, e1, e2]
  obtain ⟨lo, hlo⟩ : ∃ lo, lo = v - v / 2 := ⟨_, rfl⟩
  obtain ⟨hi, hhi⟩ : ∃ hi, hi = v / 2 := ⟨_, rfl⟩
  have HFI := hid (rfits12_any q N t r (v : Int) W1 hN2 (by omega) (by omega))
  rw [decide_eq_true (show 0 ≤ (v : Int) ∧ (v : Int) ≤ 12 ∧ 2 ^ ((v : Int).toNat - (v : Int).toNat / 2) ≤ N / 2 from ⟨by omega, by omega, by rw [Int.toNat_natCast]; exact hfit⟩)] at HFI
  have q1 : (v : Int).tdiv 2 = (hi : Int) := by rw [Int.tdiv_eq_ediv_of_nonneg (by omega)]; omega
  have q0 : (v : Int) / 2 = (hi : Int) := by omega
  have q2 : IntKind.i64.wrap (hi : Int) = (hi : Int) := by rw [IntKind.wrap_i64]; omega
  have q3 : (v : Int) - (hi : Int) = (lo : Int) := by omega
  have q4 : IntKind.i64.wrap (lo : Int) = (lo : Int) := by rw [IntKind.wrap_i64]; omega
  have HTL := hid (fun W => rtwo_any lo W (by omega))
  have HTH := hid (fun W => rtwo_any hi W (by omega))
  rw [← hlo] at hmx hpt
  have HHI := hid hhi
  have HLO := hid hlo
  have HAT := hid hat
  have HMX := hid hmx
  have HPT := hid hpt
  have HFF := hid F
  have HRO := hid RO
  have HDD := hid hD
  have HPN := hid hpn
  have HC1 := hid (hch.below hb1)
  rw [← hhi]
  obtain ⟨D1, hD1⟩ : ∃ D1, D1 = pgD q n o.root at' D := ⟨_, rfl⟩
  rw [← hD1]
  obtain ⟨rr, hrr⟩ : ∃ rr, rr = zat D1 0 := ⟨_, rfl⟩
  rw [← hrr]
  obtain ⟨D2, hD2⟩ : ∃ D2, D2 = pgE q n o.mixed o.point D1 := ⟨_, rfl⟩
  rw [← hD2]
  obtain ⟨pl, hpl⟩ : ∃ pl, pl = pgP q n N a D2 := ⟨_, rfl⟩
  rw [← hpl]
  obtain ⟨L1, hL1⟩ : ∃ L1, L1 = wgL q (at'.take hi) := ⟨_, rfl⟩
  rw [← hL1]
  obtain ⟨VV, hVV⟩ : ∃ VV, VV = dtz q o.point.length o.point (wgL q (at'.drop hi)) := ⟨_, rfl⟩
  rw [← hVV]
  obtain ⟨T1, hT1⟩ : ∃ T1, T1 = pgSh q n N hi o.root o.ps pl o.rows o.nodes := ⟨_, rfl⟩
  rw [← hT1]
  obtain ⟨T2, hT2⟩ : ∃ T2, T2 = agB q N r t o.mixed o.ps o.rows (fun l => evz q l rr) := ⟨_, rfl⟩
  rw [← hT2]
  obtain ⟨T3, hT3⟩ : ∃ T3, T3 = agB q N r t o.point o.ps o.rows (fun l => dtz q l.length l L1) := ⟨_, rfl⟩
  rw [← hT3]
  have HD1 := hid hD1
  have HRR := hid hrr
  have HD2 := hid hD2
  have HPL := hid hpl
  have HL1 := hid hL1
  have HVV := hid hVV
  have HT1 := hid hT1
  have HT2 := hid hT2
  have HT3 := hid hT3
  obtain ⟨n1, hn1⟩ : ∃ n1, n1 = o.root.length := ⟨_, rfl⟩
  obtain ⟨n2, hn2⟩ : ∃ n2, n2 = o.mixed.length := ⟨_, rfl⟩
  obtain ⟨n3, hn3⟩ : ∃ n3, n3 = o.point.length := ⟨_, rfl⟩
  obtain ⟨n4, hn4⟩ : ∃ n4, n4 = o.ps.length := ⟨_, rfl⟩
  obtain ⟨n5, hn5⟩ : ∃ n5, n5 = o.rows.length := ⟨_, rfl⟩
  obtain ⟨n6, hn6⟩ : ∃ n6, n6 = o.nodes.length := ⟨_, rfl⟩
  have H1 := hid hn1
  have H2 := hid hn2
  have H3 := hid hn3
  have H4 := hid hn4
  have H5 := hid hn5
  have H6 := hid hn6
  obtain ⟨X, hX⟩ : ∃ X, X = 2 ^ lo := ⟨_, rfl⟩
  obtain ⟨Y, hY⟩ : ∃ Y, Y = 2 ^ hi := ⟨_, rfl⟩
  have HXX := hid hX
  have HYY := hid hY
  rw [← hX] at HTL
  rw [← hY] at HTH
  have hYb : Y ≤ 4096 := by rw [hY]; exact Nat.pow_le_pow_right (n := 2) (by decide) (show hi ≤ 12 by omega)
  have hXb : X ≤ 4096 := by rw [hX]; exact Nat.pow_le_pow_right (n := 2) (by decide) (show lo ≤ 12 by omega)
  have k1 : ((n1 : Int) != 4) = false := by rw [hn1, h4r]; rfl
  have k2 : ((n2 : Int) != (X : Int)) = false := by rw [hn2, hmx, hX]; simp
  have k3 : ((n3 : Int) != (X : Int)) = false := by rw [hn3, hpt, hX]; simp
  obtain ⟨ai, hai⟩ : ∃ ai : Int, ai = (a : Int) := ⟨_, rfl⟩
  rw [← hai]
  have HAI := hid hai
  have ka1 : ¬ ai < 1 := by omega
  have ka2 : ¬ (64 : Int) < ai := by omega
  clear hai
  have kv : ((v : Int) != (v : Int)) = false := by simp
  rw [hat]
  simp only [plC, ← hn1, ← hn2, ← hn3, ← hn4, ← hn5, ← hn6] at hW1 HK ⊢
  have HW1 := hid hW1
  have HM := hid hM
  have HPP := hid hPP
  have HB1 := hid hb1
  clear hch hD RO F hpn hs1 hs2 hb1 hD1 hrr hD2 hpl hL1 hVV hT1 hT2 hT3 hn1 hn2 hn3 hn4 hn5 hn6 hX hY hat hmx hpt hhi hlo h4r hfit hW1 hM hPP
  go_enter Tryz.func27, Tryz.ntmps27
  go_wp2_with fail
  rw [← HPP.out, ← HM.out, ← HW1.out]
  clear HW1 HM HPP
  refine HFI.out.mono ?_
  rintro e w2 ⟨rfl, hb2⟩
  have HG2 : Hid (W1.grownBy w2 (some rc)) := gb_below hb2
  have HC2 := hid (HC1.out.below hb2)
  obtain ⟨⟨m0, m1, m2, m3⟩, ⟨p0, p1, p2, p3, p4, p5⟩, hgw⟩ := HK.out w2 HG2.out
  clear hb2 HFI HC1
  go_wp2_with fail
  refine (HTL.out _).mono ?_
  rintro e w3 ⟨rfl, hw3⟩
  have hw3' := hw3.symm
  subst hw3'
  clear hw3 HTL
  have HR1 := hid (rstep_any q n rc A.c1 3 A.a1 o.root D w2 h5 h4 HPN.out (by omega) (by have := HFF.out.m1; have := HDD.out.1; omega) HDD.out.2 HFF.out.f1 HC2.out (HRO.out w2 hgw).1.l1)
  rw [← H1.out] at HR1
  clear hgw
  go_wp2_with fail
  refine HR1.out.mono ?_
  rintro e w4 ⟨rfl, hc4, hg4⟩
  have HG4 := hid (gb_trans HG2.out hg4)
  have HDG4 : Hid (Dig (digl q n (3 :: (D ++ o.root)))) := dig_digl h3 h4 _ _
  have HR2 := hid (rstep_any q n rc c4 3 a4 at' _ w4 h5 h4 HPN.out (by omega) (by have := HFF.out.m4; have := HDG4.out.1; omega) HDG4.out.2 HFF.out.f4 hc4 (HRO.out w4 (HK.out w4 HG4.out).2.2).2)
  rw [HAT.out] at HR2
  clear hc4 hg4 HR1 HC2 HG2 m0 m1 m2 m3 p0 p1 p2 p3 p4 p5
  go_wp2_with fail
  refine HR2.out.mono ?_
  rintro e w5 ⟨rfl, hc5, hg5⟩
  have HG5 := hid (gb_trans HG4.out hg5)
  have HDG5 : Hid (Dig (digl q n (3 :: (digl q n (3 :: (D ++ o.root)) ++ at')))) := dig_digl h3 h4 _ _
  have HR3 := hid (rdraw_any q n rc _ w5 h5 h4 HPN.out (by have := HDG5.out.1; omega) HDG5.out.2 hc5)
  have HE1 : Hid (digl q n (4 :: digl q n (3 :: (digl q n (3 :: (D ++ o.root)) ++ at'))) = D1) := by unfold Hid; rw [HD1.out]; rfl
  rw [HE1.out, ← HRR.out] at HR3
  have HDG1 : Hid (Dig D1) := by unfold Hid; rw [HD1.out]; exact dig_digl h3 h4 _ _
  have hrb := HDG1.out.2.all 0
  rw [← HRR.out] at hrb
  clear hc5 hg5 HR2 HG4 HDG4 HDG5 HE1
  go_wp2_with fail
  refine HR3.out.mono ?_
  rintro e w6 ⟨rfl, hc6, hg6⟩
  have HG6 := hid (gb_trans HG5.out hg6)
  obtain ⟨⟨m0, m1, m2, m3⟩, ⟨p0, p1, p2, p3, p4, p5⟩, hgw⟩ := HK.out w6 HG6.out
  have HR4 := hid (rstep_any q n rc A.c2 3 A.a2 o.mixed D1 w6 h5 h4 HPN.out (by omega) (by have := HFF.out.m2; have := HDG1.out.1; omega) HDG1.out.2 HFF.out.f2 hc6 (HRO.out w6 hgw).1.l2)
  rw [← H2.out] at HR4
  clear hc6 hg6 HR3 HG5 hgw
  go_wp2_with fail
  refine HR4.out.mono ?_
  rintro e w7 ⟨rfl, hc7, hg7⟩
  have HG7 := hid (gb_trans HG6.out hg7)
  clear m0 m1 m2 m3 p0 p1 p2 p3 p4 p5
  obtain ⟨⟨m0, m1, m2, m3⟩, ⟨p0, p1, p2, p3, p4, p5⟩, hgw⟩ := HK.out w7 HG7.out
  have HDG7 : Hid (Dig (digl q n (3 :: (D1 ++ o.mixed)))) := dig_digl h3 h4 _ _
  have HR5 := hid (rstep_any q n rc A.c3 3 A.a3 o.point _ w7 h5 h4 HPN.out (by omega) (by have := HFF.out.m3; have := HDG7.out.1; omega) HDG7.out.2 HFF.out.f3 hc7 (HRO.out w7 hgw).1.l3)
  have HE2 : Hid (digl q n (3 :: (digl q n (3 :: (D1 ++ o.mixed)) ++ o.point)) = D2) := by unfold Hid; rw [HD2.out]; rfl
  rw [HE2.out, ← H3.out] at HR5
  have HDG2 : Hid (Dig D2) := by unfold Hid; rw [HD2.out]; exact dig_digl h3 h4 _ _
  clear hc7 hg7 HR4 HG6 hgw HDG7 HE2
  go_wp2_with fail
  refine HR5.out.mono ?_
  rintro e w8 ⟨rfl, hc8, hg8⟩
  have HG8 := hid (gb_trans HG7.out hg8)
  clear m0 m1 m2 m3 p0 p1 p2 p3 p4 p5
  obtain ⟨⟨m0, m1, m2, m3⟩, ⟨p0, p1, p2, p3, p4, p5⟩, hgw⟩ := HK.out w8 HG8.out
  have HR6 := hid (rdraw12_any q n rc N a D2 w8 h5 h4 HPN.out (by have := HDG2.out.1; omega) HDG2.out.2 hc8 hN1 hN2 (by omega))
  rw [← HPL.out, ← HAI.out] at HR6
  clear hc8 hg8 HR5 HG7 hgw
  go_wp2_with fail
  refine HR6.out.mono ?_
  rintro e w9 ⟨vl, rfl, _, hown9, hg9⟩
  have HG9 := hid (gb_trans HG8.out hg9)
  obtain ⟨al, cl, rfl, hll⟩ := lst_of_owns hown9
  have HLL := hid hll
  clear hown9 hg9 HR6 HG8 m0 m1 m2 m3 p0 p1 p2 p3 p4 p5 hll
  obtain ⟨nl, hnl⟩ : ∃ nl, nl = pl.length := ⟨_, rfl⟩
  have HNL := hid hnl
  rw [← hnl]
  clear hnl
  go_wp2_with fail
  refine (HTH.out _).mono ?_
  rintro e w10 ⟨rfl, hw10⟩
  have hw10' := hw10.symm
  subst hw10'
  clear hw10 HTH
  obtain ⟨⟨m0, m1, m2, m3⟩, ⟨p0, p1, p2, p3, p4, p5⟩, hgw⟩ := HK.out w9 HG9.out
  have hW9 := (HRO.out w9 hgw).1
  have HSH := hid (rshows_any q n h5 h4 HPN.out A.c1 A.cp A.cr A.cn cl A.a1 A.ap A.ar A.an al o.root (N : Int) (Y : Int) o.ps o.rows o.nodes pl w9 (by have := HFF.out.m1; omega) (by have := HFF.out.mp; omega) (by have := HFF.out.mr; omega) (by have := HFF.out.mn; omega) (by rw [HPL.out]; have := onc_len (ls (plz q n N D2) a); rw [ls_len] at this; unfold pgP; omega) HFF.out.f1 HFF.out.fr HFF.out.fn hW9.l1.row hW9.lp.row hW9.lr hW9.ln HLL.out.row)
  rw [HYY.out, pgSh_shz, ← HT1.out, ← H1.out, ← H4.out, ← H5.out, ← H6.out, ← HNL.out] at HSH
  rw [← HYY.out] at HSH
  clear hW9 hgw
  go_wp2_with fail
  refine HSH.out.mono ?_
  rintro e w11 ⟨rfl, hb11⟩
  have HG11 := hid (gb_trans HG9.out (gb_below hb11))
  have HL11 := hid ((HLL.out.below hb11).mono hb11.size)
  clear m0 m1 m2 m3 p0 p1 p2 p3 p4 p5 hb11 HSH HLL HG9
  cases hT : T1 with
  | false =>
    have HNO : Hid (¬ (T1 = true ∧ T2 = true ∧ T3 = true)) := fun h => by
      have := h.1
      rw [hT] at this
      cases this
    clear hT
    go_wp2_with fail
    go_ret2
    exact ⟨fun h => absurd h HNO.out, fun _ => rfl, (HK.out _ HG11.out).2.2⟩
  | true =>
    have hfacts : o.ps = pl ∧ wiB (2 ^ hi) o.rows = true ∧ chkf q n o.root (N : Int) o.ps o.rows o.nodes = true := by
      have h := HT1.out
      rw [hT] at h
      unfold pgSh at h
      have h := h.symm
      rw [Bool.and_eq_true, Bool.and_eq_true] at h
      exact ⟨of_decide_eq_true h.1, h.2.1, h.2.2⟩
    have hg5 : 1 ≤ (N : Int) ∧ (N : Int) ≤ 65536 ∧ o.rows.length = o.ps.length ∧ o.root.length = 4 ∧ AscN (N : Int) o.ps := by
      by_cases g : 1 ≤ (N : Int) ∧ (N : Int) ≤ 65536 ∧ o.rows.length = o.ps.length ∧ o.root.length = 4 ∧ AscN (N : Int) o.ps
      · exact g
      · have h := hfacts.2.2
        rw [chkf_no g] at h
        cases h
    have HPSL := hid hfacts.1
    have HWI := hid hfacts.2.1
    have HRP := hid hg5.2.2.1
    have HAS := hid hg5.2.2.2.2
    have HTT := hid hT
    have hn5l : n5 = nl := by rw [H5.out, HNL.out, HRP.out, HPSL.out]
    have HN5 := hid hn5l
    have hnl64 : nl ≤ 64 := by
      rw [HNL.out, HPL.out]
      have := onc_len (ls (plz q n N D2) a)
      rw [ls_len] at this
      unfold pgP
      omega
    clear hfacts hg5 hT hn5l q0 q1 q2 q3 q4 k1 k2 k3 ka1 ka2 kv
    have HPW := hid (rpowers_any q Y rr w11 h3 h4 hrb.1 hrb.2 (by omega))
    go_wp2_with fail
    refine HPW.out.mono ?_
    rintro e w12 ⟨vp, rfl, hop, hb12⟩
    have HG12 := hid (gb_trans HG11.out (gb_below hb12))
    have HL12 := hid ((HL11.out.below hb12).mono hb12.size)
    obtain ⟨aP, cP, rfl, hlP⟩ := lst_of_owns hop
    have HLP := hid hlP
    rw [pwl_len]
    have htk : (at'.take hi).length = hi := by rw [List.length_take, HAT.out, HHI.out]; omega
    have hW12 := HRO.out w12 (HK.out w12 HG12.out).2.2
    have hroom := hW12.2.room
    rw [HAT.out] at hroom
    have hiv : hi ≤ v := by have := HHI.out; omega
    have HUN := hid (runits_any q c4 a4 (at'.take hi) w12 h3 h4 (by rw [htk]; omega) (fun j hj => by
      rw [htk] at hj
      have := HFF.out.f4.all j
      simp only [zat, List.getElem?_take, if_pos hj] at this ⊢
      exact this) (fun k hk => by
      rw [htk] at hk
      obtain ⟨b', o', e1, e2, e3⟩ := hW12.2.row k (by rw [HAT.out]; omega)
      refine ⟨b', o', e1, e2, ?_⟩
      rw [e3]
      simp only [zat, List.getElem?_take, if_pos hk]))
    rw [htk, ← HL1.out] at HUN
    have HLL1 : Hid (L1.length = Y) := by unfold Hid; rw [HL1.out, wgL_len, htk, HYY.out]
    have hic : (hi : Int) ≤ (c4 : Int) := by omega
    have hiv2 : (hi : Int) ≤ (v : Int) := by omega
    have HA0 : Hid ((if c4 = 0 then a4 else a4.map (fun x => x.add 0)) = a4) := by
      unfold Hid
      split
      · rfl
      · cases a4 with
        | none => rfl
        | some x => simp [Addr.add]
    clear hop hb12 HPW hlP HG11 HL11 htk hW12
    go_wp2_with fail
    refine HUN.out.mono ?_
    rintro e w13 ⟨vu, rfl, hou, hb13⟩
    have HG13 := hid (gb_trans HG12.out (gb_below hb13))
    have HL13 := hid ((HL12.out.below hb13).mono hb13.size)
    have HLP13 := hid ((HLP.out.below hb13).mono hb13.size)
    obtain ⟨aU, cU, rfl, hlU⟩ := lst_of_owns hou
    have HLU := hid hlU
    rw [HLL1.out]
    obtain ⟨⟨m0, m1, m2, m3⟩, ⟨p0, p1, p2, p3, p4, p5⟩, hgw⟩ := HK.out w13 HG13.out
    have HVA := hid (rvalues_any q N A.c2 r t A.a2 o.mixed w13 h3 h4 (by omega) hN2 hr0 hr1 ht0 ht1 (by have := HFF.out.m2; omega) HFF.out.f2 (HRO.out w13 hgw).1.l2.row)
    rw [← H2.out] at HVA
    clear hou hb13 HUN hlU HG12 HL12 HLP hgw
    go_wp2_with fail
    refine HVA.out.mono ?_
    rintro e w14 ⟨gM, NM, FM, rfl, _, hrM, hNM, hFM, hb14⟩
    have HG14 := hid (gb_trans HG13.out (gb_below hb14))
    have HL14 := hid ((HL13.out.below hb14).mono hb14.size)
    have HLP14 := hid ((HLP13.out.below hb14).mono hb14.size)
    have HLU14 := hid ((HLU.out.below hb14).mono hb14.size)
    have HRM := hid hrM
    have HFM := hid hFM
    clear m0 m1 m2 m3 p0 p1 p2 p3 p4 p5
    obtain ⟨⟨m0, m1, m2, m3⟩, ⟨p0, p1, p2, p3, p4, p5⟩, hgw⟩ := HK.out w14 HG14.out
    have HVB := hid (rvalues_any q N A.c3 r t A.a3 o.point w14 h3 h4 (by omega) hN2 hr0 hr1 ht0 ht1 (by have := HFF.out.m3; omega) HFF.out.f3 (HRO.out w14 hgw).1.l3.row)
    rw [← H3.out] at HVB
    clear hb14 HVA hrM hFM HG13 HL13 HLP13 HLU hgw
    go_wp2_with fail
    refine HVB.out.mono ?_
    rintro e w15 ⟨gQ, NQ, FQ, rfl, _, hrQ, hNQ, hFQ, hb15⟩
    have HG15 := hid (gb_trans HG14.out (gb_below hb15))
    have HL15 := hid ((HL14.out.below hb15).mono hb15.size)
    have HLP15 := hid ((HLP14.out.below hb15).mono hb15.size)
    have HLU15 := hid ((HLU14.out.below hb15).mono hb15.size)
    have HRM15 := hid (HRM.out.of_block (hb15.block _ HRM.out.lt))
    have HRQ := hid hrQ
    have HFQ := hid hFQ
    clear m0 m1 m2 m3 p0 p1 p2 p3 p4 p5 hb15 HVB hrQ hFQ HG14 HL14 HLP14 HLU14 HRM
    have HRF : Hid (∀ k, k < nl → ¬ (evz q o.mixed (Dom.pt q t r (zat pl k).toNat) = dtz q Y (pwl q rr Y) (rat o.rows k) ∧ evz q o.point (Dom.pt q t r (zat pl k).toNat) = dtz q Y L1 (rat o.rows k)) → ¬ (T1 = true ∧ T2 = true ∧ T3 = true)) := fun k hk hne hh => by
      have hkp : k < o.ps.length := by rw [HPSL.out, ← HNL.out]; exact hk
      have hkr : k < o.rows.length := by rw [HRP.out]; exact hkp
      have hlen : (rat o.rows k).length = Y := by rw [HYY.out]; exact wiB_at HWI.out hkr
      have hbnd := HAS.out k hkp
      have hmod : (zat o.ps k % (N : Int)).toNat = (zat pl k).toNat := by rw [Int.emod_eq_of_lt hbnd.1 hbnd.2.1, HPSL.out]
      have e2 := hh.2.1
      have e3 := hh.2.2
      rw [HT2.out] at e2
      rw [HT3.out] at e3
      have f2 := of_decide_eq_true e2 k hkp
      have f3 := of_decide_eq_true e3 k hkp
      rw [hmod] at f2 f3
      apply hne
      refine ⟨?_, ?_⟩
      · rw [f2]
        show evz q (rat o.rows k) rr = _
        rw [evz_dtz h3, hlen]
      · rw [f3]
        show dtz q (rat o.rows k).length (rat o.rows k) L1 = _
        rw [hlen, dtz_comm]
    have HRT : Hid ((∀ k, k < nl → evz q o.mixed (Dom.pt q t r (zat pl k).toNat) = dtz q Y (pwl q rr Y) (rat o.rows k) ∧ evz q o.point (Dom.pt q t r (zat pl k).toNat) = dtz q Y L1 (rat o.rows k)) → T1 = true ∧ T2 = true ∧ T3 = true) := fun hh => by
      have gen : ∀ k, k < o.ps.length → (zat o.ps k % (N : Int)).toNat = (zat pl k).toNat ∧ (rat o.rows k).length = Y ∧ k < nl := fun k hkp => by
        have hkr : k < o.rows.length := by rw [HRP.out]; exact hkp
        have hbnd := HAS.out k hkp
        exact ⟨by rw [Int.emod_eq_of_lt hbnd.1 hbnd.2.1, HPSL.out], by rw [HYY.out]; exact wiB_at HWI.out hkr, by rw [HNL.out, ← HPSL.out]; exact hkp⟩
      refine ⟨HTT.out, ?_, ?_⟩
      · rw [HT2.out]
        refine decide_eq_true (fun k hkp => ?_)
        obtain ⟨g1, g2, g3⟩ := gen k hkp
        rw [g1, (hh k g3).1]
        show _ = evz q (rat o.rows k) rr
        rw [evz_dtz h3, g2]
      · rw [HT3.out]
        refine decide_eq_true (fun k hkp => ?_)
        obtain ⟨g1, g2, g3⟩ := gen k hkp
        rw [g1, (hh k g3).2]
        show dtz q Y L1 (rat o.rows k) = dtz q (rat o.rows k).length (rat o.rows k) L1
        rw [g2, dtz_comm]
    clear HTT
    go_wp2_with fail
    go_loopw [26] (fun iv wr => ∃ i : Nat, i ≤ nl ∧ iv = .int .i64 (i : Int) ∧ Hid ((∀ k, k < i → evz q o.mixed (Dom.pt q t r (zat pl k).toNat) = dtz q Y (pwl q rr Y) (rat o.rows k) ∧ evz q o.point (Dom.pt q t r (zat pl k).toNat) = dtz q Y L1 (rat o.rows k)) ∧ Below w15.heap.size w15 wr)) (fun iv _ => nl - (intOf iv).toNat)
    case atStart => exact ⟨0, by omega, rfl, fun k hk => by omega, Below.refl _ _⟩
    case round =>
      obtain ⟨i, hi', rfl, HI⟩ := hrel
      by_cases hlt : i < nl
      · have hlt2 : (i : Int) < (nl : Int) := by omega
        have hlt3 : (i : Int) < (n5 : Int) := by have := HN5.out; omega
        have his : IntKind.i64.wrap ((i : Int) + 1) = (i : Int) + 1 := by rw [IntKind.wrap_i64]; omega
        have hKW : ∀ W, Below w15.heap.size w15 W → W1.grownBy W (some rc) := fun W hW => gb_trans HG15.out (gb_below hW)
        have HKW := hid hKW
        obtain ⟨⟨m0, m1, m2, m3⟩, ⟨p0, p1, p2, p3, p4, p5⟩, hgw⟩ := HK.out wr (hKW wr HI.out.2)
        have hir : i < o.rows.length := by rw [← H5.out]; have := HN5.out; omega
        have hWr := (HRO.out wr hgw).1
        obtain ⟨br, orr, ak, ck, har, hbr, hcr, hlk⟩ := hWr.lr.row i hir
        rw [har] at p4
        have HAR := hid har
        clear har
        have hlenr : (rat o.rows i).length = Y := by rw [HYY.out]; exact wiB_at HWI.out hir
        have hPO := ((HLP15.out.below HI.out.2).mono HI.out.2.size)
        have hUO := ((HLU15.out.below HI.out.2).mono HI.out.2.size)
        have HDO1 : Hid (Calls Tryz.prog 61 #[.int .i64 q, .slice aP Y cP, .slice ak Y ck] wr fun e w' => e = .returned (.int .i64 (dtz q Y (pwl q rr Y) (rat o.rows i))) ∧ Below wr.heap.size wr w') := by
          have h := rdot_any q cP ck aP ak (pwl q rr Y) (rat o.rows i) wr h3 h4 (by rw [pwl_len]; omega) (by rw [pwl_len, hlenr]; exact Nat.le_refl _) (pwl_fits h4 h3 _ _) (HFF.out.fr i hir).1 hPO.row hlk.row
          rw [pwl_len, hlenr] at h
          exact h
        have HDO2 : Hid (∀ W, Below wr.heap.size wr W → Calls Tryz.prog 61 #[.int .i64 q, .slice aU Y cU, .slice ak Y ck] W fun e w' => e = .returned (.int .i64 (dtz q Y L1 (rat o.rows i))) ∧ Below W.heap.size W w') := fun W hW => by
          have h := rdot_any q cU ck aU ak L1 (rat o.rows i) W h3 h4 (by rw [HLL1.out]; omega) (by rw [HLL1.out, hlenr]; exact Nat.le_refl _) (by rw [HL1.out]; exact wgL_fits h4 h3 _) (HFF.out.fr i hir).1 ((hUO.below hW).mono hW.size).row ((hlk.below hW).mono hW.size).row
          rw [HLL1.out, hlenr] at h
          exact h
        obtain ⟨bl, ol, hal, hbl, hxl⟩ := HL15.out.row i (by rw [← HNL.out]; exact hlt)
        have hbnd := HAS.out i (by rw [HPSL.out, ← HNL.out]; exact hlt)
        rw [HPSL.out] at hbnd
        obtain ⟨zn, hzn⟩ := Int.eq_ofNat_of_zero_le hbnd.1
        rw [hzn] at hxl hbnd
        have hznN : zn < N := by omega
        have hznN2 : (zn : Int) < (N : Int) := by omega
        have HZN : Hid ((zat pl i).toNat = zn) := by unfold Hid; rw [hzn]; rfl
        have HM0 : Hid (w15.cell? ⟨gM, zn, none⟩ = some (.int .i64 (evz q o.mixed (Dom.pt q t r zn)))) := by
          unfold Hid
          rw [HRM15.out.cell (show zn < NM by omega), HFM.out zn hznN]
        have HQ0 : Hid (w15.cell? ⟨gQ, zn, none⟩ = some (.int .i64 (evz q o.point (Dom.pt q t r zn)))) := by
          unfold Hid
          rw [HRQ.out.cell (show zn < NQ by omega), HFQ.out zn hznN]
        have HIA := hid HI.out.1
        have HIB := hid HI.out.2
        have HNF := hid (HRF.out i hlt)
        rw [HZN.out] at HNF
        subst hal
        rw [hlenr] at hcr
        obtain ⟨x1, hx1⟩ : ∃ x1, x1 = dtz q Y (pwl q rr Y) (rat o.rows i) := ⟨_, rfl⟩
        obtain ⟨x2, hx2⟩ : ∃ x2, x2 = dtz q Y L1 (rat o.rows i) := ⟨_, rfl⟩
        obtain ⟨e1, he1⟩ : ∃ e1, e1 = evz q o.mixed (Dom.pt q t r zn) := ⟨_, rfl⟩
        obtain ⟨e2, he2⟩ : ∃ e2, e2 = evz q o.point (Dom.pt q t r zn) := ⟨_, rfl⟩
        have HX1 := hid hx1
        have HX2 := hid hx2
        have HE1 := hid he1
        have HE2 := hid he2
        rw [← hx1] at HDO1 HNF
        rw [← hx2] at HDO2 HNF
        rw [← he1] at HM0 HNF
        rw [← he2] at HQ0 HNF
        have hcrI := hcr
        clear HI hPO hUO hlk hWr hgw hzn hbnd hx1 hx2 he1 he2 hKW
        go_wp2_with fail
        refine HDO1.out.mono ?_
        rintro e w16 ⟨rfl, hb16⟩
        have HB16 := hid hb16
        have hK16 := HK.out w16 (HKW.out _ (HIB.out.trans (hb16.mono HIB.out.size)))
        have hcr16 := (hb16.cell (p := ⟨br, orr + i, none⟩) hbr).trans hcr
        clear m0 m1 m2 m3 p0 p1 p2 p3 p4 p5 hb16
        obtain ⟨⟨m0, m1, m2, m3⟩, ⟨p0, p1, p2, p3, p4, p5⟩, _⟩ := hK16
        rw [HAR.out] at p4
        go_wp2_with fail
        refine (HDO2.out w16 HB16.out).mono ?_
        rintro e w17 ⟨rfl, hb17⟩
        have HB17 : Hid (Below w15.heap.size w15 w17) := (HIB.out.trans (HB16.out.mono HIB.out.size)).trans (hb17.mono (Nat.le_trans HIB.out.size HB16.out.size))
        have zl := (HB17.out.cell (p := ⟨bl, ol + i, none⟩) hbl).trans hxl
        have zm := (HB17.out.cell (p := ⟨gM, zn, none⟩) (World.block_lt_of_cell? _ _ HM0.out)).trans HM0.out
        have zq := (HB17.out.cell (p := ⟨gQ, zn, none⟩) (World.block_lt_of_cell? _ _ HQ0.out)).trans HQ0.out
        clear m0 m1 m2 m3 p0 p1 p2 p3 p4 p5 hb17 hcr hcr16 hxl HDO1 HDO2 HB16
        by_cases c1 : e1 = x1
        · have kc1 : (x1 != e1) = false := by rw [c1]; simp
          by_cases c2 : e2 = x2
          · have kc2 : (x2 != e2) = false := by rw [c2]; simp
            have HNX : Hid (∀ k, k < i + 1 → evz q o.mixed (Dom.pt q t r (zat pl k).toNat) = dtz q Y (pwl q rr Y) (rat o.rows k) ∧ evz q o.point (Dom.pt q t r (zat pl k).toNat) = dtz q Y L1 (rat o.rows k)) := fun k hk => by
              by_cases e : k = i
              · rw [e, HZN.out, ← HX1.out, ← HX2.out, ← HE1.out, ← HE2.out]
                exact ⟨c1, c2⟩
              · exact HIA.out k (by omega)
            clear c1 c2 HNF
            go_wp2_with fail
            go_roundw
            case rel => exact ⟨i + 1, by omega, by go_num, HNX.out, HB17.out⟩
            case measure => simp [intOf]; omega
          · have kc2 : (x2 != e2) = true := by simp; exact fun h => c2 h.symm
            have HNO := hid (HNF.out (fun h => c2 h.2))
            clear c1 c2 HNF
            go_wp2_with fail
            go_ret2
            exact ⟨fun h => absurd h HNO.out, fun _ => rfl, (HK.out _ (HKW.out _ HB17.out)).2.2⟩
        · have kc1 : (x1 != e1) = true := by simp; exact fun h => c1 h.symm
          have HNO := hid (HNF.out (fun h => c1 h.1))
          clear c1 HNF
          go_wp2_with fail
          go_ret2
          exact ⟨fun h => absurd h HNO.out, fun _ => rfl, (HK.out _ (HKW.out _ HB17.out)).2.2⟩
      · obtain rfl : i = nl := by omega
        have hlt2 : ¬ (i : Int) < (i : Int) := by omega
        have HYES := hid (HRT.out HI.out.1)
        have HGE : Hid (W1.grownBy wr (some rc)) := gb_trans HG15.out (gb_below HI.out.2)
        obtain ⟨⟨m0, m1, m2, m3⟩, ⟨p0, p1, p2, p3, p4, p5⟩, hgw⟩ := HK.out wr HGE.out
        have hWr := HRO.out wr hgw
        have hdr : (at'.drop hi).length = v - hi := by rw [List.length_drop, HAT.out]
        have hlov : v - hi = lo := by rw [HLO.out, HHI.out]
        obtain ⟨AA, hAA⟩ : ∃ AA, AA = (if c4 = hi then a4 else a4.map (fun x => x.add hi)) := ⟨_, rfl⟩
        have HU2 := hid (runits_any q (c4 - hi) AA (at'.drop hi) wr h3 h4 (by rw [hdr]; omega) (fun j hj => by
          have := HFF.out.f4.all (hi + j)
          simp only [zat, List.getElem?_drop] at this ⊢
          exact this) (fun k hk => by
          rw [hdr] at hk
          obtain ⟨b', o', e1, e2, e3⟩ := hWr.2.row (hi + k) (by rw [HAT.out]; omega)
          refine ⟨b', o' + hi, ?_, e2, ?_⟩
          · rw [hAA, if_neg (by omega), e1]
            simp only [Option.map_some, Addr.add]
            split
            · next h0 => rw [h0, Nat.add_zero]
            · rfl
          · rw [show o' + hi + k = o' + (hi + k) from by omega, e3]
            simp only [zat, List.getElem?_drop]))
        rw [hdr] at HU2
        have HAA := hid hAA
        have HWL : Hid ((wgL q (at'.drop hi)).length = X) := by unfold Hid; rw [wgL_len, hdr, hlov, HXX.out]
        have hlow : (0 : Int) ≤ (hi : Int) := by omega
        clear HI hWr hgw hdr hlov hAA
        have HDT : Hid (∀ (W : World) (aR : Option Addr) (cR : Nat), w.grownBy W (some rc) → RowB W.heap.size W aR (wgL q (at'.drop hi)) → Calls Tryz.prog 61 #[.int .i64 q, .slice A.a3 n3 A.c3, .slice aR X cR] W fun e w' => e = .returned (.int .i64 VV) ∧ Below W.heap.size W w') := fun W aR cR hW hr => by
          have h := rdot_any q A.c3 cR A.a3 aR o.point (wgL q (at'.drop hi)) W h3 h4 (by have := HFF.out.m3; omega) (by rw [HWL.out, HPT.out, HXX.out]; exact Nat.le_refl _) HFF.out.f3 (wgL_fits h4 h3 _) (HRO.out W hW).1.l3.row hr
          rw [← HVV.out, ← H3.out, HWL.out] at h
          exact h
        clear HT1 HT2 HT3 HL1 HVV HRF HRT HRM15 HRQ HFM HFQ HL15 HLP15 HLU15 HAS HWI HPSL
        have hA2 : (if c4 = hi then a4 else a4.map (fun x => x.add hi)) = AA := HAA.out.symm
        clear HAA m0 m1 m2 m3 HN5 HNL HRP HD1 HD2 HPL HRR HDD HDG1 HDG2 HPN
        go_wp2_with fail
        refine HU2.out.mono ?_
        rintro e w18 ⟨vr, rfl, hor, hb18⟩
        have HG18 := hid (gb_trans HGE.out (gb_below hb18))
        obtain ⟨aR, cR, rfl, hlR⟩ := lst_of_owns hor
        have hK18 := HK.out w18 HG18.out
        have HDX := hid (HDT.out w18 aR cR hK18.2.2 hlR.row)
        clear p0 p1 p2 p3 p4 p5 hA2
        obtain ⟨⟨m0, m1, m2, m3⟩, ⟨p0, p1, p2, p3, p4, p5⟩, _⟩ := hK18
        rw [HWL.out]
        clear hor hb18 hlR HU2
        go_wp2_with fail
        refine HDX.out.mono ?_
        rintro e w19 ⟨rfl, hb19⟩
        have HG19 := hid (HK.out w19 (gb_trans HG18.out (gb_below hb19))).2.2
        clear hb19 HDX m0 m1 m2 m3 p0 p1 p2 p3 p4 p5
        go_wp2_with fail
        go_ret2
        exact ⟨fun _ => rfl, fun h => absurd HYES.out h, HG19.out⟩

end Go.Proofs.YtmmlphdekeflfaaGreatDoor
