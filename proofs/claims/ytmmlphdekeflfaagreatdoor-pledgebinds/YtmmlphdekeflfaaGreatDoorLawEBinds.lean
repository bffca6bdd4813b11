/- PledgeBinds: the walk. -/
import Derived.Test.YtmmlphdekeflfaaGreatDoorPbAX
import Derived.Test.YtmmlphdekeflfaaGreatDoorPbAY
import Derived.Test.YtmmlphdekeflfaaGreatDoorPbBA
import Derived.Test.YtmmlphdekeflfaaGreatDoorLawTBinds
import Derived.Test.YtmmlphdekeflfaaGreatDoorTrhC
namespace Go.Proofs.YtmmlphdekeflfaaGreatDoor
open Go.RowKit

/-- a pledge -/
structure Plg where
  root : List Int
  mixed : List Int
  point : List Int
  ps : List Int
  rows : List (List Int)
  nodes : List (List Int)
/-- where a pledge lies -/
structure PlA where
  a1 : Option Addr
  a2 : Option Addr
  a3 : Option Addr
  ap : Option Addr
  ar : Option Addr
  an : Option Addr
  c1 : Nat
  c2 : Nat
  c3 : Nat
  cp : Nat
  cr : Nat
  cn : Nat
/-- a pledge that can be read -/
structure PlW (w : World) (A : PlA) (o : Plg) : Prop where
  l1 : Lst w.heap.size w A.a1 A.c1 o.root
  l2 : Lst w.heap.size w A.a2 A.c2 o.mixed
  l3 : Lst w.heap.size w A.a3 A.c3 o.point
  lp : Lst w.heap.size w A.ap A.cp o.ps
  lr : LstR w.heap.size w A.ar A.cr o.rows
  ln : LstR w.heap.size w A.an A.cn o.nodes
theorem PlW.step {w W : World} {A : PlA} {o : Plg} (h : PlW w A o) (e : Below w.heap.size w W) : PlW W A o :=
  ⟨(h.l1.below e).mono e.size, (h.l2.below e).mono e.size, (h.l3.below e).mono e.size, (h.lp.below e).mono e.size, (h.lr.below e).mono e.size, (h.ln.below e).mono e.size⟩
abbrev plC (A : PlA) (o : Plg) : Array Value := #[.slice A.a1 o.root.length A.c1, .slice A.a2 o.mixed.length A.c2, .slice A.a3 o.point.length A.c3, .slice A.ap o.ps.length A.cp, .slice A.ar o.rows.length A.cr, .slice A.an o.nodes.length A.cn]
/-- what Check tells if it says yes -/
def PlY (q n N : Nat) (r t v : Int) (o : Plg) (at' : List Int) (m : Int) : Prop := ∃ v' : Nat, v = (v' : Int) ∧ at'.length = v' ∧ 2 ^ (v' - v' / 2) ≤ N / 2 ∧ o.point.length = 2 ^ (v' - v' / 2) ∧ o.root.length = 4 ∧ chkf q n o.root (N : Int) o.ps o.rows o.nodes = true ∧
  agB q N r t o.point o.ps o.rows (fun l => dtz q l.length l (wgL q (at'.take (v' / 2)))) = true ∧ m = dtz q o.point.length o.point (wgL q (at'.drop (v' / 2)))

theorem pcheck_all (N0 q n dd sb s b d N c : Nat) (r t v a : Int) (A : PlA) (o : Plg) (a4 : Option Addr) (c4 : Nat) (at' D : List Int) (w : World) (O : PlO w c q n dd sb s b d N r t A.a1 A.a2 A.a3 A.ap A.ar A.an a4 A.c1 A.c2 A.c3 A.cp A.cr A.cn c4 o.root o.mixed o.point o.ps o.rows o.nodes at') (F : PlF o.root o.mixed o.point o.ps o.rows o.nodes at') (ok : SpgOk q n dd) (hP : PCh N0 q n w c D) (hD : Dig D) :
    Calls Tryz.prog 25 #[.pointer (some ⟨s, 0, none⟩), .pointer (some ⟨c, 0, none⟩), .pointer (some ⟨d, 0, none⟩), .int .i64 v, .slice a4 at'.length c4, .int .i64 a, .agg (plC A o)] w fun e w' => ∃ (m : Int) (k : Bool), e = .returned (.tuple #[.int .i64 m, .bool k]) ∧ (k = true → PlY q n N r t v o at' m) ∧ w.grownBy w' (some c) := by
  have D0 := O.dm w (gb_below (Below.refl _ _))
  by_cases hk : PlK N v a at'.length o.root.length o.mixed.length o.point.length
  · obtain ⟨v', rfl, h12, hf, hl4, ⟨k1, k2⟩, hr4, hmx, hpt⟩ := hk
    obtain ⟨a', rfl⟩ := Int.eq_ofNat_of_zero_le (show 0 ≤ a by omega)
    refine (pcheck_yes N0 q n dd sb s b d N v' a' c r t A.a1 A.a2 A.a3 A.ap A.ar A.an a4 A.c1 A.c2 A.c3 A.cp A.cr A.cn c4 o.root o.mixed o.point o.ps o.rows o.nodes at' D w O F ok hP hD h12 hf hl4 (by omega) (by omega) hr4 hmx hpt).mono ?_
    rintro e w' ⟨hy, hn, _, hg⟩
    by_cases ht : pgSh q n N (v' / 2) o.root o.ps (pgP q n N a' (pgE q n o.mixed o.point (pgD q n o.root at' D))) o.rows o.nodes = true ∧ agB q N r t o.mixed o.ps o.rows (fun l => evz q l (zat (pgD q n o.root at' D) 0)) = true ∧ agB q N r t o.point o.ps o.rows (fun l => dtz q l.length l (wgL q (at'.take (v' / 2)))) = true
    · refine ⟨_, _, hy ht, fun _ => ⟨v', rfl, hl4, hf, hpt, hr4, ?_, ht.2.2, rfl⟩, hg⟩
      have := ht.1
      unfold pgSh at this
      rw [Bool.and_eq_true, Bool.and_eq_true] at this
      exact this.2.2
    · exact ⟨_, _, hn ht, (fun h => by cases h), hg⟩
  · refine (pcheck_no b d N c s v a r t A.a1 A.a2 A.a3 a4 A.c1 A.c2 A.c3 c4 o.root.length o.mixed.length o.point.length at'.length _ _ _ w D0.da D0.pos.2 hk).mono ?_
    rintro e w' ⟨rfl, hb⟩
    exact ⟨_, _, rfl, (fun h => by cases h), gb_below hb⟩

/-- what a pledge looks at, out of what lies below the chain -/
theorem plO_of {w0 w : World} {N0 c q n dd sb s b d N : Nat} {r t : Int} {A : PlA} {o : Plg} {a4 : Option Addr} {c4 : Nat} {at' : List Int} (hw : PlW w0 A o) (h4 : Lst w0.heap.size w0 a4 c4 at') (hb : Below w0.heap.size w0 w) (hc : N0 ≤ c) (h0 : w0.heap.size ≤ N0) (hNw : N0 ≤ w.heap.size) (hs : SpgAt w s sb q n dd) (hsN : s < N0) (hbN : sb < N0) (D : DO w q b d N r t) (hb2 : b < N0) (hd2 : d < N0) :
    PlO w c q n dd sb s b d N r t A.a1 A.a2 A.a3 A.ap A.ar A.an a4 A.c1 A.c2 A.c3 A.cp A.cr A.cn c4 o.root o.mixed o.point o.ps o.rows o.nodes at' := by
  have hB : ∀ W, w.grownBy W (some c) → Below N0 w W := fun W g => gb_to g hc hNw
  have hW : ∀ W, w.grownBy W (some c) → Below w0.heap.size w0 W := fun W g => hb.trans ((hB W g).mono h0)
  exact ⟨fun W g => hs.below (hB W g) hsN hbN, fun W g => D.below (hB W g) hb2 hd2, fun W g => (hw.step (hW W g)).l1, fun W g => (hw.step (hW W g)).l2, fun W g => (hw.step (hW W g)).l3, fun W g => (hw.step (hW W g)).lp, fun W g => (hw.step (hW W g)).lr, fun W g => (hw.step (hW W g)).ln, fun W g => (h4.below (hW W g)).mono (hW W g).size⟩

set_option maxRecDepth 100000 in
set_option maxHeartbeats 8000000 in
theorem ebinds_good (q k0 : Nat) (s v asked : Int) (a3 a4 a6 : Option Addr) (c3 c4 c6 : Nat) (label other at' : List Int) (A B : PlA) (o u : Plg) (w : World) (hg : GoodT q k0 s) (hs1 : -9223372036854775808 ≤ s) (hs2 : s ≤ 9223372036854775807)
    (hll : label.length ≤ 17592186043904) (hlo : other.length ≤ 17592186043904) (hfl : Fits label) (hfo : Fits other) (h3 : Lst w.heap.size w a3 c3 label) (h4 : Lst w.heap.size w a4 c4 other) (h6 : Lst w.heap.size w a6 c6 at')
    (hA : PlW w A o) (hB : PlW w B u) (FA : PlF o.root o.mixed o.point o.ps o.rows o.nodes at') (FB : PlF u.root u.mixed u.point u.ps u.rows u.nodes at') :
    Calls Tryz.prog 6 #[.int .i64 q, .int .i64 ((2 ^ k0 : Nat) : Int), .int .i64 s, .slice a3 label.length c3, .slice a4 other.length c4, .int .i64 v, .slice a6 at'.length c6, .int .i64 asked, .agg (plC A o), .agg (plC B u)] w fun e w' => e = .returned (.bool true) ∧ Below w.heap.size w w' := by
  have h23 := hg.h23
  have hq3 := hg.at'.h3
  have hq4 := hg.at'.h4
  have hkN := two_pow_le hg.at'.hk
  obtain ⟨W0, hW0⟩ : ∃ W0, W0 = (w.alloc (.cells (plC A o) 51)).alloc (.cells (plC B u) 51) := ⟨_, rfl⟩
  have hb0 : Below w.heap.size w W0 := by rw [hW0]; exact ((Below.refl _ _).alloc (Nat.le_refl _) _).alloc (by simp) _
  obtain ⟨PA, hPA⟩ : ∃ PA, PA = w.heap.size := ⟨_, rfl⟩
  obtain ⟨PB, hPB⟩ : ∃ PB, PB = w.heap.size + 1 := ⟨_, rfl⟩
  have hsA : W0.heap[PA]? = some (.cells (plC A o) 51 (0, 0)) := by
    rw [hW0, hPA]
    have := heap_alloc_new w (.cells (plC A o) 51)
    have hb := (Below.refl (w.alloc (.cells (plC A o) 51)).heap.size (w.alloc (.cells (plC A o) 51))).alloc (Nat.le_refl _) (.cells (plC B u) 51)
    exact (hb.block _ (by simp)).trans this
  have hsB : W0.heap[PB]? = some (.cells (plC B u) 51 (0, 0)) := by
    rw [hW0, hPB]
    have := heap_alloc_new (w.alloc (.cells (plC A o) 51)) (.cells (plC B u) 51)
    simpa using this
  have HKA : Hid (∀ W, Below W0.heap.size W0 W → (W.cell? ⟨PA, 0, none⟩ = some (.slice A.a1 o.root.length A.c1) ∧ W.cell? ⟨PA, 1, none⟩ = some (.slice A.a2 o.mixed.length A.c2) ∧ W.cell? ⟨PA, 2, none⟩ = some (.slice A.a3 o.point.length A.c3) ∧ W.cell? ⟨PA, 3, none⟩ = some (.slice A.ap o.ps.length A.cp) ∧ W.cell? ⟨PA, 4, none⟩ = some (.slice A.ar o.rows.length A.cr) ∧ W.cell? ⟨PA, 5, none⟩ = some (.slice A.an o.nodes.length A.cn)) ∧ (W.cell? ⟨PB, 0, none⟩ = some (.slice B.a1 u.root.length B.c1) ∧ W.cell? ⟨PB, 1, none⟩ = some (.slice B.a2 u.mixed.length B.c2) ∧ W.cell? ⟨PB, 2, none⟩ = some (.slice B.a3 u.point.length B.c3) ∧ W.cell? ⟨PB, 3, none⟩ = some (.slice B.ap u.ps.length B.cp) ∧ W.cell? ⟨PB, 4, none⟩ = some (.slice B.ar u.rows.length B.cr) ∧ W.cell? ⟨PB, 5, none⟩ = some (.slice B.an u.nodes.length B.cn))) := fun W hW => by
    have e1 := (hW.block PA (Array.getElem?_eq_some_iff.1 hsA).1).trans hsA
    have e2 := (hW.block PB (Array.getElem?_eq_some_iff.1 hsB).1).trans hsB
    refine ⟨⟨?_, ?_, ?_, ?_, ?_, ?_⟩, ?_, ?_, ?_, ?_, ?_, ?_⟩ <;> simp [World.cell?, e1, e2]
  have HTH := hid (things_yes q k0 s W0 hg hs1 hs2)
  have HA := hid hA
  have HBB := hid hB
  have H3 := hid h3
  have H4 := hid h4
  have H6 := hid h6
  have HFA := hid FA
  have HFB := hid FB
  have HFL := hid hfl
  have HFO := hid hfo
  have HB0 := hid hb0
  obtain ⟨N, hN⟩ : ∃ N, N = 2 ^ k0 := ⟨_, rfl⟩
  simp only [← hN] at HTH hkN ⊢
  obtain ⟨t, ht⟩ : ∃ t, t = s % (q : Int) := ⟨_, rfl⟩
  rw [← ht] at HTH
  have HW0 := hid hW0
  have HPAE := hid hPA
  have HPBE := hid hPB
  clear hg hA hB h3 h4 h6 FA FB hfl hfo hb0 hsA hsB hN ht hW0 hPA hPB
  go_enter Tryz.func6, Tryz.ntmps6
  go_wp2_with fail
  rw [← HPBE.out, ← HPAE.out, ← HW0.out]
  clear HW0 HPAE HPBE
  refine HTH.out.mono ?_
  rintro e w1 ⟨sp, b, n, dd, d, r, rfl, hok, hsp, _, hD, hb1⟩
  have HS1 := hid hsp
  have HD1 := hid hD
  have HB1 := hid hb1
  have HOK := hid hok
  have hsl := hsp.lt
  have hbl := hsp.ltb
  have hdl := hD.dlt
  clear hok hsp hD hb1 HTH
  go_wp2_with fail
  refine (sfield_any q n dd b sp w1 HS1.out).mono ?_
  rintro e w2 ⟨rfl, hw2⟩
  have hw2' := hw2.symm
  subst hw2'
  clear hw2
  go_wp2_with fail
  refine (fact10 q b w1 (by omega) hq4 HS1.out.p).mono ?_
  rintro e w3 ⟨g, rfl, hg3, hb3⟩
  have HB3 := hid hb3
  have HW3 : Hid (Below W0.heap.size W0 w3) := HB1.out.trans (hb3.mono HB1.out.size)
  have HC3 : Hid (Below w.heap.size w w3) := HB0.out.trans (HW3.out.mono HB0.out.size)
  have HN1 := hid (cnew_any w1.heap.size q n dd sp b c3 a3 label w3 HOK.out (HS1.out.keep hb3) hb3.size hsl hbl hll HFL.out ((H3.out.below HC3.out).mono HC3.out.size))
  clear hb3
  go_wp2_with fail
  refine HN1.out.mono ?_
  rintro e w4 ⟨c, rfl, hc4, hP4, hb4⟩
  have HP4 := hid hP4
  have HB4 : Hid (Below w1.heap.size w1 w4) := HB3.out.trans (hb4.mono HB3.out.size)
  have HC4 : Hid (Below w.heap.size w w4) := HC3.out.trans (hb4.mono HC3.out.size)
  have HN2 := hid (cnew_any w1.heap.size q n dd sp b c4 a4 other w4 HOK.out (HS1.out.keep HB4.out) HB4.out.size hsl hbl hlo HFO.out ((H4.out.below HC4.out).mono HC4.out.size))
  have hcl4 := hP4.lt
  have hcg4 := hP4.ge
  clear hP4 hb4 HN1 HB3 HC3 HW3 hg3
  go_wp2_with fail
  refine HN2.out.mono ?_
  rintro e w5 ⟨c', rfl, hc5, hP5, hb5⟩
  have HP5 := hid (HP4.out.below hb5)
  have HQ5 := hid hP5
  have HB5 : Hid (Below w1.heap.size w1 w5) := HB4.out.trans (hb5.mono HB4.out.size)
  have HC5 : Hid (Below w.heap.size w w5) := HC4.out.trans (hb5.mono HC4.out.size)
  have hcg5 := hP5.ge
  have hw01 : w.heap.size ≤ w1.heap.size := Nat.le_trans HB0.out.size HB1.out.size
  have hDGl : Dig (digl q n (2 :: label)) := dig_digl hq3 hq4 _ _
  have hDGo : Dig (digl q n (2 :: other)) := dig_digl hq3 hq4 _ _
  have HCA := hid (pcheck_all w1.heap.size q n dd b sp b d N c r t v asked A o a6 c6 at' _ w5 (plO_of HA.out H6.out HC5.out hcg4 hw01 HB5.out.size (HS1.out.keep HB5.out) hsl hbl (HD1.out.step HB5.out) hbl hdl) HFA.out HOK.out HP5.out hDGl)
  have HKW5 := HKA.out w5 (HB1.out.trans (HB5.out.mono HB1.out.size))
  obtain ⟨⟨x0, x1, x2, x3, x4, x5⟩, y0, y1, y2, y3, y4, y5⟩ := HKW5
  clear hP5 hb5 HN2 HP4 HB4 HC4 HP5
  go_wp2_with fail
  refine HCA.out.mono ?_
  rintro e w6 ⟨m, kx, rfl, hyA, hg6⟩
  have HYA := hid hyA
  have hB6 : Below w1.heap.size w5 w6 := gb_to hg6 hcg4 HB5.out.size
  have HB6 : Hid (Below w1.heap.size w1 w6) := HB5.out.trans hB6
  have HC6 : Hid (Below w.heap.size w w6) := HC5.out.trans (hB6.mono hw01)
  have HP6 : Hid (PCh w1.heap.size q n w6 c' (digl q n (2 :: other))) := HQ5.out.blocks (gb_blk hg6 HQ5.out.lt (by omega)) (fun x hx => hB6.block x hx)
  have HCB := hid (pcheck_all w1.heap.size q n dd b sp b d N c' r t v asked B u a6 c6 at' _ w6 (plO_of HBB.out H6.out HC6.out hcg5 hw01 HB6.out.size (HS1.out.keep HB6.out) hsl hbl (HD1.out.step HB6.out) hbl hdl) HFB.out HOK.out HP6.out hDGo)
  have HKW6 := HKA.out w6 (HB1.out.trans (HB6.out.mono HB1.out.size))
  clear x0 x1 x2 x3 x4 x5 y0 y1 y2 y3 y4 y5 hyA hg6 hB6 HCA HQ5 HB5 HC5
  obtain ⟨⟨x0, x1, x2, x3, x4, x5⟩, y0, y1, y2, y3, y4, y5⟩ := HKW6
  go_wp2_with fail
  refine HCB.out.mono ?_
  rintro e w7 ⟨m', ky, rfl, hyB, hg7⟩
  have HYB := hid hyB
  have hB7 : Below w1.heap.size w6 w7 := gb_to hg7 hcg5 HB6.out.size
  have HB7 : Hid (Below w1.heap.size w1 w7) := HB6.out.trans hB7
  have HC7 : Hid (Below w.heap.size w w7) := HC6.out.trans (hB7.mono hw01)
  have HKW7 := HKA.out w7 (HB1.out.trans (HB7.out.mono HB1.out.size))
  have HSA := hid (rsame_any q A.c1 B.c1 A.a1 B.a1 o.root u.root w7 hq3 hq4 (by have := HFA.out.m1; omega) (by have := HFB.out.m1; omega) HFA.out.f1 HFB.out.f1 (HA.out.step HC7.out).l1.row (HBB.out.step HC7.out).l1.row)
  clear x0 x1 x2 x3 x4 x5 y0 y1 y2 y3 y4 y5 hyB hg7 hB7 HCB HP6 HB6 HC6
  obtain ⟨⟨x0, x1, x2, x3, x4, x5⟩, y0, y1, y2, y3, y4, y5⟩ := HKW7
  go_wp2_with fail
  refine HSA.out.mono ?_
  rintro e w8 ⟨rfl, hw8⟩
  have hw8' := hw8.symm
  subst hw8'
  clear hw8 HSA
  obtain ⟨rt, hrt⟩ : ∃ rt, rt = samb q o.root u.root := ⟨_, rfl⟩
  rw [← hrt]
  have HRT := hid hrt
  clear hrt
  cases kx with
  | false =>
    go_wp2_with fail
    go_ret
    exact ⟨rfl, HC7.out⟩
  | true =>
  cases ky with
  | false =>
    go_wp2_with fail
    go_ret
    exact ⟨rfl, HC7.out⟩
  | true =>
  cases rt with
  | false =>
    go_wp2_with fail
    go_ret
    exact ⟨rfl, HC7.out⟩
  | true =>
  by_cases eA : ¬ o.ps.length = N
  · have kA : ((o.ps.length : Int) != (N : Int)) = true := by simp; omega
    have kA2 : ¬ (o.ps.length : Int) = (N : Int) := by omega
    generalize o.ps.length = z1 at *
    go_wp2_with fail
    go_ret
    exact ⟨rfl, HC7.out⟩
  have eA := Classical.not_not.1 eA
  by_cases eB : ¬ u.ps.length = N
  · have kA : ((o.ps.length : Int) != (N : Int)) = false := by rw [eA]; simp
    have kB : ((u.ps.length : Int) != (N : Int)) = true := by simp; omega
    have kB2 : ¬ (u.ps.length : Int) = (N : Int) := by omega
    go_wp2_with fail
    go_ret
    exact ⟨rfl, HC7.out⟩
  have eB := Classical.not_not.1 eB
  have kA : ((o.ps.length : Int) != (N : Int)) = false := by rw [eA]; simp
  have kB : ((u.ps.length : Int) != (N : Int)) = false := by rw [eB]; simp
  by_cases eM : m = m'
  · have kM : (m == m') = true := by rw [eM]; simp
    go_wp2_with fail
    go_ret
    exact ⟨rfl, HC7.out⟩
  have kM : (m == m') = false := by rw [beq_eq_false_iff_ne]; exact eM
  have HAP : Hid (chkf q n o.root (N : Int) o.ps o.rows o.nodes = true ∧ chkf q n o.root (N : Int) u.ps u.rows u.nodes = true ∧ Apart q o.ps o.rows u.ps u.rows) := by
    obtain ⟨v1, hv1, hl1, hf1, hp1, hr1, hc1, hg1, hm1⟩ := HYA.out rfl
    obtain ⟨v2, hv2, hl2, hf2, hp2, hr2, hc2, hg2, hm2⟩ := HYB.out rfl
    obtain rfl : v1 = v2 := by omega
    have hcr := chkf_root (n := n) (N := (N : Int)) (ps := u.ps) (rows := u.rows) (nodes := u.nodes) HRT.out.symm (by rw [hr1, hr2]) hc2
    refine ⟨hc1, hcr, ?_⟩
    by_cases hap : Apart q o.ps o.rows u.ps u.rows
    · exact hap
    · exfalso
      apply eM
      have hasc : ∀ {rt : List Int} {ps : List Int} {rows nodes : List (List Int)}, chkf q n rt (N : Int) ps rows nodes = true → AscN (N : Int) ps := fun {rt ps rows nodes} h => by
        by_cases g : 1 ≤ (N : Int) ∧ (N : Int) ≤ 65536 ∧ rows.length = ps.length ∧ rt.length = 4 ∧ AscN (N : Int) ps
        · exact g.2.2.2.2
        · rw [chkf_no g] at h
          cases h
      rw [hm1, hm2]
      exact binds_plain HD1.out.cir o.point u.point o.ps u.ps o.rows u.rows _ _ (by rw [hp1]; omega) (by rw [hp1, hp2]) (hasc hc1) (hasc hc2) eA eB hg1 hg2 hap
  have HCO := hid (collide_any q n dd b sp A.c1 A.cp A.cr A.cn B.cp B.cr B.cn A.a1 A.ap A.ar A.an B.ap B.ar B.an o.root (N : Int) o.ps o.rows o.nodes u.ps u.rows u.nodes w7 ⟨HOK.out, HS1.out.keep HB7.out, by have := HFA.out.mp; omega, by have := HFA.out.mn; omega, by have := HFB.out.mp; omega, by have := HFB.out.mn; omega, by omega, by omega, HFA.out.f1, HFA.out.fp, HFA.out.fr, HFA.out.fn, HFB.out.fp, HFB.out.fr, HFB.out.fn, (HA.out.step HC7.out).l1, (HA.out.step HC7.out).lp, (HA.out.step HC7.out).lr, (HA.out.step HC7.out).ln, (HBB.out.step HC7.out).lp, (HBB.out.step HC7.out).lr, (HBB.out.step HC7.out).ln⟩)
  have HSG : Hid (∀ W, Below w1.heap.size w1 W → SpgAt W sp b q n dd) := fun W hW => HS1.out.keep hW
  clear eA eB eM HYA HYB HKA HA HBB H3 H4 H6 HFA HFB HFL HFO HS1 HD1 HRT
  generalize o.ps.length = z1 at *
  generalize u.ps.length = z2 at *
  go_wp2_with fail
  refine HCO.out.mono ?_
  rintro e w9 ⟨hh, hb9⟩
  rcases hh with ⟨_, hn⟩ | ⟨v1, v2, U, V, rfl, ⟨A1, K1, rfl, l1⟩, ⟨A2, K2, rfl, l2⟩, hcl, _⟩
  · exact absurd HAP.out hn
  have HCL := hid hcl
  have HLU := hid l1
  have HLV := hid l2
  have HB9 : Hid (Below w1.heap.size w1 w9) := HB7.out.trans (hb9.mono HB7.out.size)
  have HC9 : Hid (Below w.heap.size w w9) := HC7.out.trans (hb9.mono HC7.out.size)
  obtain ⟨D, hD⟩ : ∃ D : Nat → Int, hst q n (pdf q (zat U) U.length) (U.length / 4 + 1) = D := ⟨_, rfl⟩
  obtain ⟨D', hD'⟩ : ∃ D' : Nat → Int, hst q n (pdf q (zat V) V.length) (V.length / 4 + 1) = D' := ⟨_, rfl⟩
  have HDD : Hid (ls D' 4 = ls D 4) := by
    have := HCL.out.2.2.2.1
    unfold digl at this
    rw [hD, hD'] at this
    exact this.symm
  have HH1 : Hid (Calls Tryz.prog 30 #[.pointer (some ⟨sp, 0, none⟩), .slice A1 U.length K1] w9 fun e w' => e = .returned (.slice (some ⟨w9.heap.size + 1, 0, none⟩) 4 4) ∧ ArrI w' (w9.heap.size + 1) 80 8 D ∧ Below w9.heap.size w9 w') := by
    have h := shash_any q n dd b sp U.length K1 A1 (zat U) w9 HOK.out (HSG.out _ HB9.out) (by have := HCL.out.2.2.2.2.2.2.1; omega) (fun j _ => HCL.out.2.2.2.2.1.all j) (fun j hj => HLU.out.row j hj)
    rw [hD] at h
    exact h
  have HH2 : Hid (∀ W, Below w9.heap.size w9 W → Calls Tryz.prog 30 #[.pointer (some ⟨sp, 0, none⟩), .slice A2 V.length K2] W fun e w' => e = .returned (.slice (some ⟨W.heap.size + 1, 0, none⟩) 4 4) ∧ ArrI w' (W.heap.size + 1) 80 8 D' ∧ Below W.heap.size W w') := fun W hW => by
    have h := shash_any q n dd b sp V.length K2 A2 (zat V) W HOK.out (HSG.out _ (HB9.out.trans (hW.mono HB9.out.size))) (by have := HCL.out.2.2.2.2.2.2.2; omega) (fun j _ => HCL.out.2.2.2.2.2.1.all j) (fun j hj => ((HLV.out.below hW).mono hW.size).row j hj)
    rw [hD'] at h
    exact h
  clear hD hD' hcl l1 l2 hb9 HCO x0 x1 x2 x3 x4 x5 y0 y1 y2 y3 y4 y5
  go_wp2_with fail
  refine HH1.out.mono ?_
  rintro e w10 ⟨rfl, hA10, hb10⟩
  have HA10 := hid hA10
  have HB10 := hid hb10
  clear hA10 hb10
  go_wp2_with fail
  refine (HH2.out _ HB10.out).mono ?_
  rintro e w11 ⟨rfl, hA11, hb11⟩
  have hs5 := HB10.out.size
  have hs6 := hb11.size
  have hl5 := HA10.out.lt
  have hl6 := hA11.lt
  have HA6 := hid (HA10.out.below hb11 hl5)
  have HB11 := hid (HB10.out.trans (hb11.mono hs5))
  have HX5 : Hid (RowB w11.heap.size w11 (some ⟨w9.heap.size + 1, 0, none⟩) (ls D 4)) := HA6.out.rowB (by rw [ls_len]; omega) (fun j hj => by rw [ls_len] at hj; exact ls_at _ _ _ hj) (by omega)
  have HX6 : Hid (RowB w11.heap.size w11 (some ⟨w10.heap.size + 1, 0, none⟩) (ls D 4)) := by
    unfold Hid
    rw [← HDD.out]
    exact hA11.rowB (by rw [ls_len]; omega) (fun j hj => by rw [ls_len] at hj; exact ls_at _ _ _ hj) (by omega)
  have HI := hid (ints_same _ _ (ls D 4) _ _ 4 4 w11 HX5.out HX6.out (by rw [ls_len]; omega))
  rw [ls_len] at HI
  clear hA11 hb11 hs5 hs6 hl5 hl6 HX5 HX6 HA10 HA6
  go_wp2_with fail
  refine HI.out.mono ?_
  rintro e w12 ⟨rfl, n7, rfl⟩
  have HB12 := hid (below_drewN HB11.out n7)
  have HSM : Hid (Calls Tryz.prog 28 #[.int .i64 (q : Int), .slice A1 U.length K1, .slice A2 V.length K2] (w11.drewN n7) fun e w' => e = .returned (.bool false) ∧ w' = w11.drewN n7) := by
    have h := rsame_any q K1 K2 A1 A2 U V (w11.drewN n7) hq3 hq4 (by have := HCL.out.2.2.2.2.2.2.1; omega) (by have := HCL.out.2.2.2.2.2.2.2; omega) HCL.out.2.2.2.2.1 HCL.out.2.2.2.2.2.1 ((HLU.out.below HB12.out).mono HB12.out.size).row ((HLV.out.below HB12.out).mono HB12.out.size).row
    rw [samb_elr.2 (by rw [HCL.out.2.1, HCL.out.2.2.1]; exact HCL.out.1)] at h
    exact h
  have HBE := hid (HC9.out.trans (HB12.out.mono HC9.out.size))
  clear HI HB11 HB12
  go_wp2_with fail
  refine HSM.out.mono ?_
  rintro e w13 ⟨rfl, hw13⟩
  have hw13' := hw13.symm
  subst hw13'
  clear hw13
  go_wp2_with fail
  go_ret
  exact ⟨rfl, HBE.out⟩

set_option maxRecDepth 100000 in
theorem ebinds_walk (p z s v asked : Int) (a3 a4 a6 : Option Addr) (c3 c4 c6 : Nat) (label other at' : List Int) (A B : PlA) (o u : Plg) (w : World) (hL : Laid w) (hp1 : -9223372036854775808 ≤ p) (hp2 : p ≤ 9223372036854775807) (hz1 : -9223372036854775808 ≤ z) (hz2 : z ≤ 9223372036854775807) (hs1 : -9223372036854775808 ≤ s) (hs2 : s ≤ 9223372036854775807)
    (hll : label.length ≤ 17592186043904) (hlo : other.length ≤ 17592186043904) (hfl : Fits label) (hfo : Fits other) (h3 : Lst w.heap.size w a3 c3 label) (h4 : Lst w.heap.size w a4 c4 other) (h6 : Lst w.heap.size w a6 c6 at')
    (hA : PlW w A o) (hB : PlW w B u) (FA : PlF o.root o.mixed o.point o.ps o.rows o.nodes at') (FB : PlF u.root u.mixed u.point u.ps u.rows u.nodes at') :
    Calls Tryz.prog 6 #[.int .i64 p, .int .i64 z, .int .i64 s, .slice a3 label.length c3, .slice a4 other.length c4, .int .i64 v, .slice a6 at'.length c6, .int .i64 asked, .agg (plC A o), .agg (plC B u)] w fun e w' => e = .returned (.bool true) ∧ Below w.heap.size w w' := by
  by_cases hg : Good10 p z s
  · obtain ⟨q, k, rfl, rfl, hg⟩ := hg
    exact ebinds_good q k s v asked a3 a4 a6 c3 c4 c6 label other at' A B o u w hg hs1 hs2 hll hlo hfl hfo h3 h4 h6 hA hB FA FB
  · have HB0 : Hid (Below w.heap.size w ((w.alloc (.cells (plC A o) 51)).alloc (.cells (plC B u) 51))) := ((Below.refl _ _).alloc (Nat.le_refl _) _).alloc (by simp) _
    have HTH := hid (things_no p z s _ (hL.below HB0.out) hg hp1 hp2 hz1 hz2 hs1 hs2)
    clear h3 h4 h6 hA hB FA FB hfl hfo hL
    go_enter Tryz.func6, Tryz.ntmps6
    go_wp2_with fail
    refine HTH.out.mono ?_
    rintro e w1 ⟨rfl, hb1⟩
    have HB1 := hid (HB0.out.trans (hb1.mono HB0.out.size))
    clear hb1
    go_wp2_with fail
    go_ret
    exact ⟨rfl, HB1.out⟩

end Go.Proofs.YtmmlphdekeflfaaGreatDoor
