
import Derived.Test.YtlhjifpomchnfaaGreatDoorPoAV
import Derived.Test.YtlhjifpomchnfaaGreatDoorPoAM
import Derived.Test.YtlhjifpomchnfaaGreatDoorPoAN
import Derived.Test.YtlhjifpomchnfaaGreatDoorTres
set_option maxRecDepth 1000000
set_option maxHeartbeats 8000000
namespace Go.Proofs.YtlhjifpomchnfaaGreatDoor
open Go.RowKit
structure PlO (w : World) (c q n dd sb s b d N : Nat) (r t : Int) (a1 a2 a3 ap ar an' a4 : Option Addr) (c1 c2 c3 cp cr cn c4 : Nat) (root mixed point ps : List Int) (rows nodes : List (List Int)) (at' : List Int) : Prop where
 sp : ∀ W, w.grownBy W (some c) -> SpgAt W s sb q n dd
 dm : ∀ W, w.grownBy W (some c) -> DO W q b d N r t
 l1 : ∀ W, w.grownBy W (some c) -> Lst W.heap.size W a1 c1 root
 l2 : ∀ W, w.grownBy W (some c) -> Lst W.heap.size W a2 c2 mixed
 l3 : ∀ W, w.grownBy W (some c) -> Lst W.heap.size W a3 c3 point
 lp : ∀ W, w.grownBy W (some c) -> Lst W.heap.size W ap cp ps
 lr : ∀ W, w.grownBy W (some c) -> LstR W.heap.size W ar cr rows
 ln : ∀ W, w.grownBy W (some c) -> LstR W.heap.size W an' cn nodes
 l4 : ∀ W, w.grownBy W (some c) -> Lst W.heap.size W a4 c4 at'
theorem PlO.step {w w' : World} {c q n dd sb s b d N : Nat} {r t : Int} {a1 a2 a3 ap ar an' a4 : Option Addr} {c1 c2 c3 cp cr cn c4 : Nat} {root mixed point ps : List Int} {rows nodes : List (List Int)} {at' : List Int} (h : PlO w c q n dd sb s b d N r t a1 a2 a3 ap ar an' a4 c1 c2 c3 cp cr cn c4 root mixed point ps rows nodes at') (g : w.grownBy w' (some c)) : PlO w' c q n dd sb s b d N r t a1 a2 a3 ap ar an' a4 c1 c2 c3 cp cr cn c4 root mixed point ps rows nodes at' :=
 ⟨fun W k => h.sp W (gb_trans g k), fun W k => h.dm W (gb_trans g k), fun W k => h.l1 W (gb_trans g k), fun W k => h.l2 W (gb_trans g k), fun W k => h.l3 W (gb_trans g k), fun W k => h.lp W (gb_trans g k), fun W k => h.lr W (gb_trans g k), fun W k => h.ln W (gb_trans g k), fun W k => h.l4 W (gb_trans g k)⟩
structure PlF (root mixed point ps : List Int) (rows nodes : List (List Int)) (at' : List Int) : Prop where
 f1 : Fits root
 f2 : Fits mixed
 f3 : Fits point
 fp : Fits ps
 fr : FitsR rows
 fn : FitsR nodes
 f4 : Fits at'
 m1 : root.length <= 17592186043904
 m2 : mixed.length <= 17592186043904
 m3 : point.length <= 17592186043904
 mp : ps.length <= 17592186043904
 mr : rows.length <= 17592186043904
 mn : nodes.length <= 17592186043904
 m4 : at'.length <= 17592186043904
def pgSh (q n N hi : Nat) (root ps pl : List Int) (rows nodes : List (List Int)) : Bool := decide (ps = pl) && (wiB (2 ^ hi) rows && chkf q n root (N : Int) ps rows nodes)
theorem pcheck_yes (N0 q n dd sb s b d N v a c : Nat) (r t : Int) (a1 a2 a3 ap ar an' a4 : Option Addr) (c1 c2 c3 cp cr cn c4 : Nat) (root mixed point ps : List Int) (rows nodes : List (List Int)) (at' D : List Int) (w : World)
  (O : PlO w c q n dd sb s b d N r t a1 a2 a3 ap ar an' a4 c1 c2 c3 cp cr cn c4 root mixed point ps rows nodes at') (F : PlF root mixed point ps rows nodes at') (ok : SpgOk q n dd) (hP : PCh N0 q n w c D) (hD : Dig D)
  (hv : v <= 12) (hfit : 2 ^ (v - v / 2) <= N / 2) (hat : at'.length = v) (ha1 : 1 <= a) (ha : a <= 64) (h4r : root.length = 4) (hmx : mixed.length = 2 ^ (v - v / 2)) (hpt : point.length = 2 ^ (v - v / 2)) :
  Calls Tryz.prog 17 #[.pointer (some ⟨s, 0, none⟩), .pointer (some ⟨c, 0, none⟩), .pointer (some ⟨d, 0, none⟩), .int .i64 (v : Int), .slice a4 at'.length c4, .int .i64 (a : Int), .agg #[.slice a1 root.length c1, .slice a2 mixed.length c2, .slice a3 point.length c3, .slice ap ps.length cp, .slice ar rows.length cr, .slice an' nodes.length cn]] w fun e w' =>
   (pgSh q n N (v / 2) root ps (pgP q n N a (pgE q n mixed point (pgD q n root at' D))) rows nodes = true /\ agB q N r t mixed ps rows (fun l => evz q l (zat (pgD q n root at' D) 0)) = true /\ agB q N r t point ps rows (fun l => dtz q l.length l (wgL q (at'.take (v / 2)))) = true ->
    e = .returned (.tuple #[.int .i64 (dtz q point.length point (wgL q (at'.drop (v / 2)))), .bool true])) /\
   (¬ (pgSh q n N (v / 2) root ps (pgP q n N a (pgE q n mixed point (pgD q n root at' D))) rows nodes = true /\ agB q N r t mixed ps rows (fun l => evz q l (zat (pgD q n root at' D) 0)) = true /\ agB q N r t point ps rows (fun l => dtz q l.length l (wgL q (at'.take (v / 2)))) = true) ->
    e = .returned (.tuple #[.int .i64 0, .bool false])) /\
   PCh N0 q n w' c (pld q n a (pgE q n mixed point (pgD q n root at' D))) /\ w.grownBy w' (some c) := by
 have hcl := hP.lt
 have hcg := hP.ge
 obtain ⟨W0, hW0⟩ : ∃ W0, W0 = w.alloc (.cells #[.slice a1 root.length c1, .slice a2 mixed.length c2, .slice a3 point.length c3, .slice ap ps.length cp, .slice ar rows.length cr, .slice an' nodes.length cn] 33) := ⟨_, rfl⟩
 obtain ⟨P, hPP⟩ : ∃ P, P = w.heap.size := ⟨_, rfl⟩
 have hb0 : Below w.heap.size w W0 := by rw [hW0]; exact (Below.refl _ _).alloc (Nat.le_refl _) _
 have hs0 : W0.heap[P]? = some (.cells #[.slice a1 root.length c1, .slice a2 mixed.length c2, .slice a3 point.length c3, .slice ap ps.length cp, .slice ar rows.length cr, .slice an' nodes.length cn] 33 (0, 0)) := by rw [hW0, hPP]; exact heap_alloc_new w _
 have D0 := (O.dm W0 (gb_below hb0))
 have hNp := D0.pos
 have HNS := hid (newShape_yes d b v N r t W0 D0.da hv hNp.2)
 obtain ⟨lo, hlo⟩ : ∃ lo, lo = v - v / 2 := ⟨_, rfl⟩
 obtain ⟨hi, hhi⟩ : ∃ hi, hi = v / 2 := ⟨_, rfl⟩
 have hlo12 : lo <= 12 := by omega
 have hhi12 : hi <= 12 := by omega
 have hsv : shV b d v = .agg #[.pointer (some ⟨b, 0, none⟩), .pointer (some ⟨d, 0, none⟩), .int .i64 (hi : Int), .int .i64 (lo : Int)] := by unfold shV; rw [hlo, hhi]
 rw [decide_eq_true hfit, hsv] at HNS
 rw [<- hlo] at hmx hpt
 have HIT := hid (fun W => isTold_any root.length mixed.length point.length c1 c2 c3 lo a1 a2 a3 (.pointer (some ⟨b, 0, none⟩)) (.pointer (some ⟨d, 0, none⟩)) (.slice ap ps.length cp) (.slice ar rows.length cr) (.slice an' nodes.length cn) (hi : Int) W hlo12)
 have hdec : decide (root.length = 4 /\ mixed.length = 2 ^ lo /\ point.length = 2 ^ lo) = true := decide_eq_true ⟨h4r, hmx, hpt⟩
 simp only [hdec] at HIT
 have HMA := hid (fun W => mayAsk_any (a : Int) W)
 have hma : decide (1 <= (a : Int) /\ (a : Int) <= 64) = true := decide_eq_true ⟨by omega, by omega⟩
 rw [hma] at HMA
 have HOO := hid O
 have HFF := hid F
 have HPC := hid hP
 have HDD := hid hD
 have HB0 := hid hb0
 have HS0 := hid hs0
 rw [<- hhi]
 obtain ⟨n1, hn1⟩ : ∃ n1, n1 = root.length := ⟨_, rfl⟩
 obtain ⟨n2, hn2⟩ : ∃ n2, n2 = mixed.length := ⟨_, rfl⟩
 obtain ⟨n3, hn3⟩ : ∃ n3, n3 = point.length := ⟨_, rfl⟩
 obtain ⟨n4, hn4⟩ : ∃ n4, n4 = ps.length := ⟨_, rfl⟩
 obtain ⟨n5, hn5⟩ : ∃ n5, n5 = rows.length := ⟨_, rfl⟩
 obtain ⟨n6, hn6⟩ : ∃ n6, n6 = nodes.length := ⟨_, rfl⟩
 have H1 := hid hn1
 have H2 := hid hn2
 have H3 := hid hn3
 have H4 := hid hn4
 have H5 := hid hn5
 have H6 := hid hn6
 have HAT := hid hat
 have HMX := hid hmx
 have HPT := hid hpt
 have HHI := hid hhi
 have HLO := hid hlo
 have HPE := hid hPP
 obtain ⟨D1, hD1⟩ : ∃ D1, D1 = pgD q n root at' D := ⟨_, rfl⟩
 rw [<- hD1]
 obtain ⟨rr, hrr⟩ : ∃ rr, rr = zat D1 0 := ⟨_, rfl⟩
 rw [<- hrr]
 obtain ⟨D2, hD2⟩ : ∃ D2, D2 = pgE q n mixed point D1 := ⟨_, rfl⟩
 rw [<- hD2]
 obtain ⟨pl, hpl⟩ : ∃ pl, pl = pgP q n N a D2 := ⟨_, rfl⟩
 rw [<- hpl]
 obtain ⟨L1, hL1⟩ : ∃ L1, L1 = wgL q (at'.take hi) := ⟨_, rfl⟩
 rw [<- hL1]
 obtain ⟨VV, hVV⟩ : ∃ VV, VV = dtz q point.length point (wgL q (at'.drop hi)) := ⟨_, rfl⟩
 rw [<- hVV]
 obtain ⟨T1, hT1⟩ : ∃ T1, T1 = pgSh q n N hi root ps pl rows nodes := ⟨_, rfl⟩
 rw [<- hT1]
 obtain ⟨T2, hT2⟩ : ∃ T2, T2 = agB q N r t mixed ps rows (fun l => evz q l rr) := ⟨_, rfl⟩
 rw [<- hT2]
 obtain ⟨T3, hT3⟩ : ∃ T3, T3 = agB q N r t point ps rows (fun l => dtz q l.length l L1) := ⟨_, rfl⟩
 rw [<- hT3]
 have HD1 := hid hD1
 have HRR := hid hrr
 have HD2 := hid hD2
 have HPL := hid hpl
 have HL1 := hid hL1
 have HVV := hid hVV
 have HT1 := hid hT1
 have HT2 := hid hT2
 have HT3 := hid hT3
 clear hD1 hrr hD2 hpl hL1 hVV hT1 hT2 hT3
 rw [hat]
 simp only [<- hn1, <- hn2, <- hn3, <- hn4, <- hn5, <- hn6] at hW0 HS0 HIT ⊢
 clear O F hP hD hb0 hs0 D0 hn1 hn2 hn3 hn4 hn5 hn6 hat hmx hpt hhi hlo h4r hsv hdec hma hfit
 go_enter Tryz.func17, Tryz.ntmps17
 go_wp2_with fail
 rw [<- hW0, <- hPP]
 clear hW0 hPP
 refine HNS.out.mono ?_
 rintro e w1 ⟨rfl, hb1⟩
 have HS1 := hid ((hb1.block P (Array.getElem?_eq_some_iff.1 HS0.out).1).trans HS0.out)
 have HB1 : Hid (Below w.heap.size w w1) := HB0.out.trans (hb1.mono HB0.out.size)
 clear hb1 HNS HS0 HB0
 obtain ⟨W2, hW2⟩ : ∃ W2, W2 = w1.alloc (.cells #[.pointer (some ⟨b, 0, none⟩), .pointer (some ⟨d, 0, none⟩), .int .i64 (hi : Int), .int .i64 (lo : Int)] 87) := ⟨_, rfl⟩
 obtain ⟨G, hG⟩ : ∃ G, G = w1.heap.size := ⟨_, rfl⟩
 have hbw : Below w1.heap.size w1 W2 := by rw [hW2]; exact (Below.refl _ _).alloc (Nat.le_refl _) _
 have HG2 : Hid (W2.heap[G]? = some (.cells #[.pointer (some ⟨b, 0, none⟩), .pointer (some ⟨d, 0, none⟩), .int .i64 (hi : Int), .int .i64 (lo : Int)] 87 (0, 0))) := by unfold Hid; rw [hW2, hG]; exact heap_alloc_new w1 _
 have HS2 := hid ((hbw.block P (Array.getElem?_eq_some_iff.1 HS1.out).1).trans HS1.out)
 have HB2 : Hid (Below w.heap.size w W2) := HB1.out.trans (hbw.mono HB1.out.size)
 have HGE : Hid (w.heap.size <= G) := by unfold Hid; rw [hG]; exact HB1.out.size
 have HSX : Hid (∀ W, Below W2.heap.size W2 W -> W.cell? ⟨G, 0, none⟩ = some (.pointer (some ⟨b, 0, none⟩)) /\ W.cell? ⟨G, 1, none⟩ = some (.pointer (some ⟨d, 0, none⟩)) /\ W.cell? ⟨G, 2, none⟩ = some (.int .i64 (hi : Int)) /\ W.cell? ⟨G, 3, none⟩ = some (.int .i64 (lo : Int)) /\ W.cell? ⟨P, 0, none⟩ = some (.slice a1 n1 c1) /\ W.cell? ⟨P, 1, none⟩ = some (.slice a2 n2 c2) /\ W.cell? ⟨P, 2, none⟩ = some (.slice a3 n3 c3) /\ W.cell? ⟨P, 3, none⟩ = some (.slice ap n4 cp) /\ W.cell? ⟨P, 4, none⟩ = some (.slice ar n5 cr) /\ W.cell? ⟨P, 5, none⟩ = some (.slice an' n6 cn)) := fun W hW => by
  have e1 := (hW.block G (Array.getElem?_eq_some_iff.1 HG2.out).1).trans HG2.out
  have e2 := (hW.block P (Array.getElem?_eq_some_iff.1 HS2.out).1).trans HS2.out
  refine ⟨?_, ?_, ?_, ?_, ?_, ?_, ?_, ?_, ?_, ?_⟩ <;> simp [World.cell?, e1, e2]
 obtain ⟨g0, g1, g2, g3, p0, p1, p2, p3, p4, p5⟩ := HSX.out W2 (Below.refl _ _)
 clear hbw HS1 HB1
 have HW2 := hid hW2
 have HGG := hid hG
 clear hW2 hG
 go_wp2_with fail
 rw [<- HW2.out, <- HGG.out]
 clear HW2 HGG
 refine (HMA.out W2).mono ?_
 rintro e w' ⟨rfl, hw'⟩
 have hw'' := hw'.symm
 subst hw''
 clear hw' HMA
 go_wp2_with fail
 refine (HIT.out W2).mono ?_
 rintro e w3 ⟨rfl, hb3⟩
 have HB3 : Hid (Below w.heap.size w w3) := HB2.out.trans (hb3.mono HB2.out.size)
 have HG3 := hid ((hb3.block G (Array.getElem?_eq_some_iff.1 HG2.out).1).trans HG2.out)
 have HS3 := hid ((hb3.block P (Array.getElem?_eq_some_iff.1 HS2.out).1).trans HS2.out)
 clear hb3 HIT g0 g1 g2 g3 p0 p1 p2 p3 p4 p5 HSX HG2 HS2 HB2
 obtain ⟨wd, hwd⟩ : ∃ wd, wd = w3.drew := ⟨_, rfl⟩
 have HBD : Hid (Below w.heap.size w wd) := by unfold Hid; rw [hwd]; exact HB3.out.drew
 have HGD : Hid (wd.heap[G]? = some (.cells #[.pointer (some ⟨b, 0, none⟩), .pointer (some ⟨d, 0, none⟩), .int .i64 (hi : Int), .int .i64 (lo : Int)] 87 (0, 0))) := by unfold Hid; rw [hwd]; exact HG3.out
 have HSD : Hid (wd.heap[P]? = some (.cells #[.slice a1 n1 c1, .slice a2 n2 c2, .slice a3 n3 c3, .slice ap n4 cp, .slice ar n5 cr, .slice an' n6 cn] 33 (0, 0))) := by unfold Hid; rw [hwd]; exact HS3.out
 have hGc : G ≠ c := by have := HGE.out; omega
 have hPc : P ≠ c := by have := HPE.out; omega
 have HK : Hid (∀ W, wd.grownBy W (some c) -> (fun W => W.cell? ⟨G, 0, none⟩ = some (.pointer (some ⟨b, 0, none⟩)) /\ W.cell? ⟨G, 1, none⟩ = some (.pointer (some ⟨d, 0, none⟩)) /\ W.cell? ⟨G, 2, none⟩ = some (.int .i64 (hi : Int)) /\ W.cell? ⟨G, 3, none⟩ = some (.int .i64 (lo : Int)) /\ W.cell? ⟨P, 0, none⟩ = some (.slice a1 n1 c1) /\ W.cell? ⟨P, 1, none⟩ = some (.slice a2 n2 c2) /\ W.cell? ⟨P, 2, none⟩ = some (.slice a3 n3 c3) /\ W.cell? ⟨P, 3, none⟩ = some (.slice ap n4 cp) /\ W.cell? ⟨P, 4, none⟩ = some (.slice ar n5 cr) /\ W.cell? ⟨P, 5, none⟩ = some (.slice an' n6 cn)) W) := fun W hW => by
  have e1 := (gb_blk hW (Array.getElem?_eq_some_iff.1 HGD.out).1 hGc).trans HGD.out
  have e2 := (gb_blk hW (Array.getElem?_eq_some_iff.1 HSD.out).1 hPc).trans HSD.out
  refine ⟨?_, ?_, ?_, ?_, ?_, ?_, ?_, ?_, ?_, ?_⟩ <;> simp [World.cell?, e1, e2]
 have HOD : Hid (PlO wd c q n dd sb s b d N r t a1 a2 a3 ap ar an' a4 c1 c2 c3 cp cr cn c4 root mixed point ps rows nodes at') := HOO.out.step (gb_below HBD.out)
 have h3 : 3 <= q := (HOD.out.dm wd (gb_below (Below.refl _ _))).h3
 have h4 : q <= 2147483647 := (HOD.out.dm wd (gb_below (Below.refl _ _))).hm
 have HDP := hid (drawPower_any N0 q n c c1 c4 a1 a4 root at' D wd h3 h4 (HPC.out.below HBD.out) HDD.out HFF.out.m1 HFF.out.m4 HFF.out.f1 HFF.out.f4 HOD.out.l1 HOD.out.l4)
 rw [<- H1.out, HAT.out] at HDP
 have HDG1 : Hid (Dig D1) := by unfold Hid; rw [HD1.out]; exact dig_digl h3 h4 _ _
 rw [<- HD1.out, <- HRR.out] at HDP
 have hrb := HDG1.out.2.all 0
 rw [<- HRR.out] at hrb
 have htk : (at'.take hi).length = hi := by rw [List.length_take, HAT.out, HHI.out]; omega
 have HXT : Hid (∀ W, wd.grownBy W (some c) -> Calls Tryz.prog 34 #[.agg #[.pointer (some ⟨b, 0, none⟩), .pointer (some ⟨d, 0, none⟩), .int .i64 (hi : Int), .int .i64 (lo : Int)], .slice a4 hi c4] W fun e w' => ∃ B0 B1, e = .returned (.func (.func 85) #[] #[.pointer (some ⟨B0, 0, none⟩), .pointer (some ⟨B1, 0, none⟩)]) /\ ExQ w' W.heap.size B0 B1 b L1 /\ Below W.heap.size W w') := fun W hW => by
  have hD2 := HOD.out.dm W hW
  have h := extend_any q b c4 (.pointer (some ⟨d, 0, none⟩)) (hi : Int) (lo : Int) a4 (at'.take hi) W h3 h4 hD2.hp (by rw [htk]; omega) (fun j hj => by
   rw [htk] at hj
   have := HFF.out.f4.all j
   simp only [zat, List.getElem?_take, if_pos hj] at this ⊢
   exact this) (fun k hk => by
   rw [htk] at hk
   obtain ⟨b', o', e1, e2, e3⟩ := (HOD.out.l4 W hW).row k (by rw [HAT.out]; have := HHI.out; omega)
   refine ⟨b', o', e1, e2, ?_⟩
   rw [e3]
   simp only [zat, List.getElem?_take, if_pos hk])
  rw [htk, <- HL1.out] at h
  exact h
 have hdw : wd.grownBy wd (some c) := gb_below (Below.refl _ _)
 have hic : hi <= c4 := by
  have := (HOD.out.l4 wd hdw).room
  rw [HAT.out] at this
  have := HHI.out
  omega
 have hiv : (hi : Int) <= (v : Int) := by have := HHI.out; omega
 have hic2 : (hi : Int) <= (c4 : Int) := by omega
 have HHW := hid htk
 clear HB3 HG3 HS3 htk
 go_wp2_with fail
 refine wp_region_held_drew (S := fun W => W.cell? ⟨G, 0, none⟩ = some (.pointer (some ⟨b, 0, none⟩)) /\ W.cell? ⟨G, 1, none⟩ = some (.pointer (some ⟨d, 0, none⟩)) /\ W.cell? ⟨G, 2, none⟩ = some (.int .i64 (hi : Int)) /\ W.cell? ⟨G, 3, none⟩ = some (.int .i64 (lo : Int)) /\ W.cell? ⟨P, 0, none⟩ = some (.slice a1 n1 c1) /\ W.cell? ⟨P, 1, none⟩ = some (.slice a2 n2 c2) /\ W.cell? ⟨P, 2, none⟩ = some (.slice a3 n3 c3) /\ W.cell? ⟨P, 3, none⟩ = some (.slice ap n4 cp) /\ W.cell? ⟨P, 4, none⟩ = some (.slice ar n5 cr) /\ W.cell? ⟨P, 5, none⟩ = some (.slice an' n6 cn)) (by kernel_rfl) ((by rw [<- hwd]; exact HK.out wd hdw)) (fun hHeld => ?_)
 rw [<- hwd] at hHeld ⊢
 clear hwd
 refine wpAnyH_takeU (i := 0) (v := .pointer (some ⟨G, 0, none⟩)) rfl (by kernel_rfl) (by kernel_rfl) (by kernel_rfl) (fun _ _ _ h => h) (by rfl) (fun W hC => by go_simp) hHeld ?_
 simp only [Act.put, List.setIfInBounds_toArray, List.set_cons_zero, List.set_cons_succ]
 refine wpAnyH_takeU (i := 1) (v := .pointer (some ⟨b, 0, none⟩)) rfl (by kernel_rfl) (by kernel_rfl) (by kernel_rfl) (fun _ _ _ h => h) (by rfl) (fun W hC => by (obtain ⟨y0, y1, y2, y3, y4, y5, y6, y7, y8, y9⟩ := hC); go_simp) hHeld ?_
 simp only [Act.put, List.setIfInBounds_toArray, List.set_cons_zero, List.set_cons_succ]
 refine wpAnyH_takeU (i := 2) (v := .pointer (some ⟨c, 0, none⟩)) rfl (by kernel_rfl) (by kernel_rfl) (by kernel_rfl) (fun _ _ _ h => h) (by rfl) (fun W hC => by go_simp) hHeld ?_
 simp only [Act.put, List.setIfInBounds_toArray, List.set_cons_zero, List.set_cons_succ]
 refine wpAnyH_takeU (i := 3) (v := .pointer (some ⟨P, 0, none⟩)) rfl (by kernel_rfl) (by kernel_rfl) (by kernel_rfl) (fun _ _ _ h => h) (by rfl) (fun W hC => by go_simp) hHeld ?_
 simp only [Act.put, List.setIfInBounds_toArray, List.set_cons_zero, List.set_cons_succ]
 refine wpAnyH_takeU (i := 4) (v := .slice a1 n1 c1) rfl (by kernel_rfl) (by kernel_rfl) (by kernel_rfl) (fun _ _ _ h => h) (by rfl) (fun W hC => by (obtain ⟨y0, y1, y2, y3, y4, y5, y6, y7, y8, y9⟩ := hC); go_simp) hHeld ?_
 simp only [Act.put, List.setIfInBounds_toArray, List.set_cons_zero, List.set_cons_succ]
 refine wpAnyH_takeU (i := 5) (v := .slice a4 v c4) rfl (by kernel_rfl) (by kernel_rfl) (by kernel_rfl) (fun _ _ _ h => h) (by rfl) (fun W hC => by go_simp) hHeld ?_
 simp only [Act.put, List.setIfInBounds_toArray, List.set_cons_zero, List.set_cons_succ]
 refine wpAnyH_takeU (i := 8) (v := .agg #[.pointer (some ⟨b, 0, none⟩), .pointer (some ⟨d, 0, none⟩), .int .i64 (hi : Int), .int .i64 (lo : Int)]) rfl (by kernel_rfl) (by kernel_rfl) (by kernel_rfl) (fun _ _ _ h => h) (by rfl) (fun W hC => by (obtain ⟨y0, y1, y2, y3, y4, y5, y6, y7, y8, y9⟩ := hC); go_simp) hHeld ?_
 simp only [Act.put, List.setIfInBounds_toArray, List.set_cons_zero, List.set_cons_succ]
 refine wpAnyH_takeU (i := 9) (v := .slice a4 v c4) rfl (by kernel_rfl) (by kernel_rfl) (by kernel_rfl) (fun _ _ _ h => h) (by rfl) (fun W hC => by go_simp) hHeld ?_
 simp only [Act.put, List.setIfInBounds_toArray, List.set_cons_zero, List.set_cons_succ]
 refine wpAnyH_takeU (i := 10) (v := .pointer (some ⟨G, 2, none⟩)) rfl (by kernel_rfl) (by kernel_rfl) (by kernel_rfl) (fun _ _ _ h => h) (by rfl) (fun W hC => by go_simp) hHeld ?_
 simp only [Act.put, List.setIfInBounds_toArray, List.set_cons_zero, List.set_cons_succ]
 refine wpAnyH_takeU (i := 11) (v := .int .i64 (hi : Int)) rfl (by kernel_rfl) (by kernel_rfl) (by kernel_rfl) (fun _ _ _ h => h) (by rfl) (fun W hC => by (obtain ⟨y0, y1, y2, y3, y4, y5, y6, y7, y8, y9⟩ := hC); go_simp) hHeld ?_
 simp only [Act.put, List.setIfInBounds_toArray, List.set_cons_zero, List.set_cons_succ]
 refine wpAnyH_takeU (i := 12) (v := .slice a4 hi c4) rfl (by kernel_rfl) (by kernel_rfl) (by kernel_rfl) (fun _ _ _ h => h) (by rfl) (fun W hC => by go_simp) hHeld ?_
 simp only [Act.put, List.setIfInBounds_toArray, List.set_cons_zero, List.set_cons_succ]
 refine wpAnyH_ready (rs := [6]) (by kernel_rfl) (by simp) ?_
 refine AllReadyH.consU rfl (fun K' hK' => ?_) AllReadyH.nil
 go_simp
 refine (HDP.out).mono ?_
 rintro e w4 ⟨rfl, hp4, hg4⟩
 have HG4 := hid hg4
 have HP4 := hid hp4
 refine hK'.out _ _ (HK.out w4 HG4.out) (fun hHeld => ?_)
 clear hK' K'
 refine wpAnyH_ready (rs := [7]) (by kernel_rfl) (by simp) ?_
 refine AllReadyH.consU rfl (fun K' hK' => ?_) AllReadyH.nil
 go_simp
 refine (powers_any b rr w4).mono ?_
 rintro e w5 ⟨B0, B1, rfl, kq0, kq1, kc0, kc1, hb5, kl0, kl1⟩
 have HG5 := hid (gb_trans HG4.out (gb_below hb5))
 have HP5 := hid (HP4.out.below hb5)
 have HQ5 : Hid (w5.cell? ⟨B0, 0, none⟩ = some (.pointer (some ⟨b, 0, none⟩)) /\ w5.cell? ⟨B1, 0, none⟩ = some (.int .i64 rr)) := ⟨kc0, kc1⟩
 have HEX := hid (HXT.out w5 HG5.out)
 refine hK'.out _ _ (HK.out w5 HG5.out) (fun hHeld => ?_)
 clear hK' K'
 refine wpAnyH_ready (rs := [13]) (by kernel_rfl) (by simp) ?_
 refine AllReadyH.consU rfl (fun K' hK' => ?_) AllReadyH.nil
 go_simp
 refine (HEX.out).mono ?_
 rintro e w6 ⟨E0, E1, rfl, hx6, hb6⟩
 have HG6 := hid (gb_trans HG5.out (gb_below hb6))
 have HP6 := hid (HP5.out.below hb6)
 have HX6 := hid hx6
 have HQ6 : Hid (w6.cell? ⟨B0, 0, none⟩ = some (.pointer (some ⟨b, 0, none⟩)) /\ w6.cell? ⟨B1, 0, none⟩ = some (.int .i64 rr)) := ⟨(hb6.cell (p := ⟨B0, 0, none⟩) (heap_lt HQ5.out.1)).trans HQ5.out.1, (hb6.cell (p := ⟨B1, 0, none⟩) (heap_lt HQ5.out.2)).trans HQ5.out.2⟩
 refine hK'.out _ _ (HK.out w6 HG6.out) (fun hHeld => ?_)
 clear hK' K'
 refine wpAnyH_takeU (i := 14) (v := .func (.func 107) #[] #[.pointer (some ⟨B0, 0, none⟩), .pointer (some ⟨B1, 0, none⟩)]) rfl (by kernel_rfl) (by kernel_rfl) (by kernel_rfl) (fun _ _ _ h => h) (by rfl) (fun W hC => by go_simp) hHeld ?_
 simp only [Act.put, List.setIfInBounds_toArray, List.set_cons_zero, List.set_cons_succ]
 refine wpAnyH_takeU (i := 15) (v := .func (.func 85) #[] #[.pointer (some ⟨E0, 0, none⟩), .pointer (some ⟨E1, 0, none⟩)]) rfl (by kernel_rfl) (by kernel_rfl) (by kernel_rfl) (fun _ _ _ h => h) (by rfl) (fun W hC => by go_simp) hHeld ?_
 simp only [Act.put, List.setIfInBounds_toArray, List.set_cons_zero, List.set_cons_succ]
 refine wpAnyH_done (by kernel_rfl) ?_ _
 have HKW : Hid (∀ W, wd.grownBy W (some c) -> w.grownBy W (some c)) := fun W hW => gb_trans (gb_below HBD.out) hW
 have HQ68 : Hid (∀ W, w6.grownBy W (some c) -> W.cell? ⟨B0, 0, none⟩ = some (.pointer (some ⟨b, 0, none⟩)) /\ W.cell? ⟨B1, 0, none⟩ = some (.int .i64 rr) /\ ExQ W w5.heap.size E0 E1 b L1) := fun W hW => by
  have c5 := HP5.out.lt
  have c4' := HP4.out.lt
  have e0 : B0 ≠ c := by omega
  have e1 : B1 ≠ c := by omega
  refine ⟨?_, ?_, HX6.out.blocks hW.size (fun k hk1 hk2 => gb_blk hW hk2 (by omega))⟩
  ·exact (World.cell?_of_block (w := w6) (a := ⟨B0, 0, none⟩) (gb_blk hW (heap_lt HQ6.out.1) e0)).trans HQ6.out.1
  ·exact (World.cell?_of_block (w := w6) (a := ⟨B1, 0, none⟩) (gb_blk hW (heap_lt HQ6.out.2) e1)).trans HQ6.out.2
 have HDL := hid (drawPlaces_any N0 q n c d b N a c2 c3 a2 a3 (.pointer (some ⟨b, 0, none⟩)) (.int .i64 (hi : Int)) (.int .i64 (lo : Int)) (.slice a1 n1 c1) (.slice ap n4 cp) (.slice ar n5 cr) (.slice an' n6 cn) r t mixed point D1 w6.drew h3 h4 (HP6.out.below (Below.refl _ _).drew) HDG1.out HFF.out.m2 HFF.out.m3 HFF.out.f2 HFF.out.f3 (by omega) hNp.2 (by omega) (fun W g => (HOD.out.dm W (gb_trans HG6.out (gb_trans (gb_below (Below.refl _ _).drew) g))).da) (fun W g => HOD.out.l2 W (gb_trans HG6.out (gb_trans (gb_below (Below.refl _ _).drew) g))) (fun W g => HOD.out.l3 W (gb_trans HG6.out (gb_trans (gb_below (Below.refl _ _).drew) g))))
 rw [<- HD2.out, <- HPL.out, <- H2.out, <- H3.out] at HDL
 have HSW : Hid (∀ (W : World) (apl : Option Addr) (cpl : Nat), wd.grownBy W (some c) -> RowB W.heap.size W apl pl -> Calls Tryz.prog 56 #[.agg #[.pointer (some ⟨b, 0, none⟩), .pointer (some ⟨d, 0, none⟩), .int .i64 (hi : Int), .int .i64 (lo : Int)], .pointer (some ⟨s, 0, none⟩), .agg #[.slice a1 n1 c1, .slice a2 n2 c2, .slice a3 n3 c3, .slice ap n4 cp, .slice ar n5 cr, .slice an' n6 cn], .slice apl pl.length cpl] W fun e w' => e = .returned (.bool T1) /\ Below W.heap.size W w') := fun W apl cpl hW hr => by
  have h := pshows_any q n dd sb b s d hi N c1 cp cr cn cpl r t a1 ap ar an' apl (.pointer (some ⟨b, 0, none⟩)) (.int .i64 (lo : Int)) (.slice a2 n2 c2) (.slice a3 n3 c3) root ps pl rows nodes W hhi12 ok (HOD.out.sp W hW) (HOD.out.dm W hW).da hNp.2 (by have := HFF.out.mp; omega) (by have := HFF.out.mr; omega) (by have := HFF.out.mn; omega) HFF.out.f1 HFF.out.fp HFF.out.fr HFF.out.fn (HOD.out.l1 W hW) (HOD.out.lp W hW) (HOD.out.lr W hW) (HOD.out.ln W hW) hr
  rw [HT1.out]
  unfold pgSh
  rw [<- H1.out, <- H4.out, <- H5.out, <- H6.out] at h
  exact h
 have hG6d : wd.grownBy w6.drew (some c) := gb_trans HG6.out (gb_below (Below.refl _ _).drew)
 have HK6 := hid (HK.out w6.drew hG6d)
 clear HDP HXT HEX hdw HP4 HG4 HP5 HG5 HQ5 hG6d hb5 hb6 hx6 kq0 kq1 kc0 kc1 hg4 hp4 hHeld
 cases hT : T1 with
 | false =>
  rw [hT] at HSW
  have HNO : Hid (¬ (T1 = true /\ T2 = true /\ T3 = true)) := fun h => by
   have := h.1
   rw [hT] at this
   cases this
  clear hT
  go_wp2_with fail
  refine wp_region_held_drew (S := fun W => W.cell? ⟨G, 0, none⟩ = some (.pointer (some ⟨b, 0, none⟩)) /\ W.cell? ⟨G, 1, none⟩ = some (.pointer (some ⟨d, 0, none⟩)) /\ W.cell? ⟨G, 2, none⟩ = some (.int .i64 (hi : Int)) /\ W.cell? ⟨G, 3, none⟩ = some (.int .i64 (lo : Int)) /\ W.cell? ⟨P, 0, none⟩ = some (.slice a1 n1 c1) /\ W.cell? ⟨P, 1, none⟩ = some (.slice a2 n2 c2) /\ W.cell? ⟨P, 2, none⟩ = some (.slice a3 n3 c3) /\ W.cell? ⟨P, 3, none⟩ = some (.slice ap n4 cp) /\ W.cell? ⟨P, 4, none⟩ = some (.slice ar n5 cr) /\ W.cell? ⟨P, 5, none⟩ = some (.slice an' n6 cn)) (by kernel_rfl) (HK6.out) (fun hHeld => ?_)
  refine wpAnyH_takeU (i := 0) (v := .agg #[.pointer (some ⟨b, 0, none⟩), .pointer (some ⟨d, 0, none⟩), .int .i64 (hi : Int), .int .i64 (lo : Int)]) rfl (by kernel_rfl) (by kernel_rfl) (by kernel_rfl) (fun _ _ _ h => h) (by rfl) (fun W hC => by (obtain ⟨y0, y1, y2, y3, y4, y5, y6, y7, y8, y9⟩ := hC); go_simp) hHeld ?_
  simp only [Act.put, List.setIfInBounds_toArray, List.set_cons_zero, List.set_cons_succ]
  refine wpAnyH_takeU (i := 1) (v := .pointer (some ⟨s, 0, none⟩)) rfl (by kernel_rfl) (by kernel_rfl) (by kernel_rfl) (fun _ _ _ h => h) (by rfl) (fun W hC => by go_simp) hHeld ?_
  simp only [Act.put, List.setIfInBounds_toArray, List.set_cons_zero, List.set_cons_succ]
  refine wpAnyH_takeU (i := 2) (v := .agg #[.slice a1 n1 c1, .slice a2 n2 c2, .slice a3 n3 c3, .slice ap n4 cp, .slice ar n5 cr, .slice an' n6 cn]) rfl (by kernel_rfl) (by kernel_rfl) (by kernel_rfl) (fun _ _ _ h => h) (by rfl) (fun W hC => by (obtain ⟨y0, y1, y2, y3, y4, y5, y6, y7, y8, y9⟩ := hC); go_simp) hHeld ?_
  simp only [Act.put, List.setIfInBounds_toArray, List.set_cons_zero, List.set_cons_succ]
  refine wpAnyH_takeU (i := 3) (v := .agg #[.pointer (some ⟨b, 0, none⟩), .pointer (some ⟨d, 0, none⟩), .int .i64 (hi : Int), .int .i64 (lo : Int)]) rfl (by kernel_rfl) (by kernel_rfl) (by kernel_rfl) (fun _ _ _ h => h) (by rfl) (fun W hC => by (obtain ⟨y0, y1, y2, y3, y4, y5, y6, y7, y8, y9⟩ := hC); go_simp) hHeld ?_
  simp only [Act.put, List.setIfInBounds_toArray, List.set_cons_zero, List.set_cons_succ]
  refine wpAnyH_takeU (i := 4) (v := .pointer (some ⟨c, 0, none⟩)) rfl (by kernel_rfl) (by kernel_rfl) (by kernel_rfl) (fun _ _ _ h => h) (by rfl) (fun W hC => by go_simp) hHeld ?_
  simp only [Act.put, List.setIfInBounds_toArray, List.set_cons_zero, List.set_cons_succ]
  refine wpAnyH_takeU (i := 5) (v := .agg #[.slice a1 n1 c1, .slice a2 n2 c2, .slice a3 n3 c3, .slice ap n4 cp, .slice ar n5 cr, .slice an' n6 cn]) rfl (by kernel_rfl) (by kernel_rfl) (by kernel_rfl) (fun _ _ _ h => h) (by rfl) (fun W hC => by (obtain ⟨y0, y1, y2, y3, y4, y5, y6, y7, y8, y9⟩ := hC); go_simp) hHeld ?_
  simp only [Act.put, List.setIfInBounds_toArray, List.set_cons_zero, List.set_cons_succ]
  refine wpAnyH_takeU (i := 6) (v := .int .i64 (a : Int)) rfl (by kernel_rfl) (by kernel_rfl) (by kernel_rfl) (fun _ _ _ h => h) (by rfl) (fun W hC => by go_simp) hHeld ?_
  simp only [Act.put, List.setIfInBounds_toArray, List.set_cons_zero, List.set_cons_succ]
  refine wpAnyH_ready (rs := [7]) (by kernel_rfl) (by simp) ?_
  refine AllReadyH.consU rfl (fun K' hK' => ?_) AllReadyH.nil
  go_simp
  refine (HDL.out).mono ?_
  rintro e w7 ⟨vv, rfl, hv7, hp7, hg7⟩
  have HG7 := hid (gb_trans HG6.out (gb_trans (gb_below (Below.refl _ _).drew) hg7))
  have HP7 := hid hp7
  obtain ⟨apl, cpl, rfl, hlp⟩ := lst_of_owns hv7
  have HSH := hid (HSW.out w7 apl cpl HG7.out hlp.row)
  clear hv7 hlp hp7
  generalize pl.length = nl at *
  refine hK'.out _ _ (HK.out w7 HG7.out) (fun hHeld => ?_)
  clear hK' K'
  refine wpAnyH_ready (rs := [8]) (by kernel_rfl) (by simp) ?_
  refine AllReadyH.consU rfl (fun K' hK' => ?_) AllReadyH.nil
  go_simp
  refine (HSH.out).mono ?_
  rintro e w8 ⟨rfl, hb8⟩
  have HG8 := hid (gb_trans HG7.out (gb_below hb8))
  have HP8 := hid (HP7.out.below hb8)
  refine hK'.out _ _ (HK.out w8 HG8.out) (fun hHeld => ?_)
  clear hK' K'
  refine wpAnyH_takeU (i := 9) (v := .bool true) rfl (by kernel_rfl) (by kernel_rfl) (by kernel_rfl) (fun _ _ _ h => h) (by rfl) (fun W hC => by go_simp) hHeld ?_
  simp only [Act.put, List.setIfInBounds_toArray, List.set_cons_zero, List.set_cons_succ]
  refine wpAnyH_done (by kernel_rfl) ?_ _
  go_wp2_with fail
  go_ret2
  exact ⟨fun h => absurd h HNO.out, fun _ => rfl, HP8.out, HKW.out _ HG8.out⟩
 | true =>
  rw [hT] at HSW
  have hwr : wiB (2 ^ hi) rows = true /\ chkf q n root (N : Int) ps rows nodes = true := by
   have h := HT1.out
   rw [hT] at h
   unfold pgSh at h
   have h := h.symm
   rw [Bool.and_eq_true, Bool.and_eq_true] at h
   exact h.2
  have HWR := hid hwr.1
  have HPR : Hid (rows.length = ps.length) := by
   by_cases g : 1 <= (N : Int) /\ (N : Int) <= 65536 /\ rows.length = ps.length /\ root.length = 4 /\ AscN (N : Int) ps
   ·exact g.2.2.1
   ·rw [chkf_no g] at hwr
    exact absurd hwr.2 (by simp)
  have HLL : Hid (L1.length = 2 ^ hi) := by unfold Hid; rw [HL1.out, wgL_len, HHW.out]
  have HTT := hid hT
  clear hwr hT
  go_wp2_with fail
  refine wp_region_held_drew (S := fun W => W.cell? ⟨G, 0, none⟩ = some (.pointer (some ⟨b, 0, none⟩)) /\ W.cell? ⟨G, 1, none⟩ = some (.pointer (some ⟨d, 0, none⟩)) /\ W.cell? ⟨G, 2, none⟩ = some (.int .i64 (hi : Int)) /\ W.cell? ⟨G, 3, none⟩ = some (.int .i64 (lo : Int)) /\ W.cell? ⟨P, 0, none⟩ = some (.slice a1 n1 c1) /\ W.cell? ⟨P, 1, none⟩ = some (.slice a2 n2 c2) /\ W.cell? ⟨P, 2, none⟩ = some (.slice a3 n3 c3) /\ W.cell? ⟨P, 3, none⟩ = some (.slice ap n4 cp) /\ W.cell? ⟨P, 4, none⟩ = some (.slice ar n5 cr) /\ W.cell? ⟨P, 5, none⟩ = some (.slice an' n6 cn)) (by kernel_rfl) (HK6.out) (fun hHeld => ?_)
  refine wpAnyH_takeU (i := 0) (v := .agg #[.pointer (some ⟨b, 0, none⟩), .pointer (some ⟨d, 0, none⟩), .int .i64 (hi : Int), .int .i64 (lo : Int)]) rfl (by kernel_rfl) (by kernel_rfl) (by kernel_rfl) (fun _ _ _ h => h) (by rfl) (fun W hC => by (obtain ⟨y0, y1, y2, y3, y4, y5, y6, y7, y8, y9⟩ := hC); go_simp) hHeld ?_
  simp only [Act.put, List.setIfInBounds_toArray, List.set_cons_zero, List.set_cons_succ]
  refine wpAnyH_takeU (i := 1) (v := .pointer (some ⟨s, 0, none⟩)) rfl (by kernel_rfl) (by kernel_rfl) (by kernel_rfl) (fun _ _ _ h => h) (by rfl) (fun W hC => by go_simp) hHeld ?_
  simp only [Act.put, List.setIfInBounds_toArray, List.set_cons_zero, List.set_cons_succ]
  refine wpAnyH_takeU (i := 2) (v := .agg #[.slice a1 n1 c1, .slice a2 n2 c2, .slice a3 n3 c3, .slice ap n4 cp, .slice ar n5 cr, .slice an' n6 cn]) rfl (by kernel_rfl) (by kernel_rfl) (by kernel_rfl) (fun _ _ _ h => h) (by rfl) (fun W hC => by (obtain ⟨y0, y1, y2, y3, y4, y5, y6, y7, y8, y9⟩ := hC); go_simp) hHeld ?_
  simp only [Act.put, List.setIfInBounds_toArray, List.set_cons_zero, List.set_cons_succ]
  refine wpAnyH_takeU (i := 3) (v := .agg #[.pointer (some ⟨b, 0, none⟩), .pointer (some ⟨d, 0, none⟩), .int .i64 (hi : Int), .int .i64 (lo : Int)]) rfl (by kernel_rfl) (by kernel_rfl) (by kernel_rfl) (fun _ _ _ h => h) (by rfl) (fun W hC => by (obtain ⟨y0, y1, y2, y3, y4, y5, y6, y7, y8, y9⟩ := hC); go_simp) hHeld ?_
  simp only [Act.put, List.setIfInBounds_toArray, List.set_cons_zero, List.set_cons_succ]
  refine wpAnyH_takeU (i := 4) (v := .pointer (some ⟨c, 0, none⟩)) rfl (by kernel_rfl) (by kernel_rfl) (by kernel_rfl) (fun _ _ _ h => h) (by rfl) (fun W hC => by go_simp) hHeld ?_
  simp only [Act.put, List.setIfInBounds_toArray, List.set_cons_zero, List.set_cons_succ]
  refine wpAnyH_takeU (i := 5) (v := .agg #[.slice a1 n1 c1, .slice a2 n2 c2, .slice a3 n3 c3, .slice ap n4 cp, .slice ar n5 cr, .slice an' n6 cn]) rfl (by kernel_rfl) (by kernel_rfl) (by kernel_rfl) (fun _ _ _ h => h) (by rfl) (fun W hC => by (obtain ⟨y0, y1, y2, y3, y4, y5, y6, y7, y8, y9⟩ := hC); go_simp) hHeld ?_
  simp only [Act.put, List.setIfInBounds_toArray, List.set_cons_zero, List.set_cons_succ]
  refine wpAnyH_takeU (i := 6) (v := .int .i64 (a : Int)) rfl (by kernel_rfl) (by kernel_rfl) (by kernel_rfl) (fun _ _ _ h => h) (by rfl) (fun W hC => by go_simp) hHeld ?_
  simp only [Act.put, List.setIfInBounds_toArray, List.set_cons_zero, List.set_cons_succ]
  refine wpAnyH_ready (rs := [7]) (by kernel_rfl) (by simp) ?_
  refine AllReadyH.consU rfl (fun K' hK' => ?_) AllReadyH.nil
  go_simp
  refine (HDL.out).mono ?_
  rintro e w7 ⟨vv, rfl, hv7, hp7, hg7⟩
  have HG7 := hid (gb_trans HG6.out (gb_trans (gb_below (Below.refl _ _).drew) hg7))
  have HP7 := hid hp7
  obtain ⟨apl, cpl, rfl, hlp⟩ := lst_of_owns hv7
  have HSH := hid (HSW.out w7 apl cpl HG7.out hlp.row)
  clear hv7 hlp hp7
  generalize pl.length = nl at *
  refine hK'.out _ _ (HK.out w7 HG7.out) (fun hHeld => ?_)
  clear hK' K'
  refine wpAnyH_ready (rs := [8]) (by kernel_rfl) (by simp) ?_
  refine AllReadyH.consU rfl (fun K' hK' => ?_) AllReadyH.nil
  go_simp
  refine (HSH.out).mono ?_
  rintro e w8 ⟨rfl, hb8⟩
  have HG8 := hid (gb_trans HG7.out (gb_below hb8))
  have HP8 := hid (HP7.out.below hb8)
  refine hK'.out _ _ (HK.out w8 HG8.out) (fun hHeld => ?_)
  clear hK' K'
  refine wpAnyH_takeU (i := 9) (v := .bool false) rfl (by kernel_rfl) (by kernel_rfl) (by kernel_rfl) (fun _ _ _ h => h) (by rfl) (fun W hC => by go_simp) hHeld ?_
  simp only [Act.put, List.setIfInBounds_toArray, List.set_cons_zero, List.set_cons_succ]
  refine wpAnyH_done (by kernel_rfl) ?_ _
  have HG68 : Hid (w6.grownBy w8 (some c)) := gb_trans (gb_below (Below.refl _ _).drew) (gb_trans hg7 (gb_below hb8))
  clear HDL HSW HSH HK6 hg7 hHeld HP7 HG7 hb8
  have hD8 := HOD.out.dm w8 HG8.out
  obtain ⟨x0, x1, x2⟩ := HQ68.out w8 HG68.out
  have HA1 := hid (agrees_any q b d N 107 c2 cp cr #[.pointer (some ⟨B0, 0, none⟩), .pointer (some ⟨B1, 0, none⟩)] (fun l => evz q l rr) r t a2 ap ar (.int .i64 (hi : Int)) (.int .i64 (lo : Int)) (.slice an' n6 cn) mixed ps rows w8 hD8 (by have := HFF.out.m2; omega) (by have := HFF.out.mp; omega) (by rw [HPR.out]; exact Nat.le_refl _) HFF.out.f2 (HOD.out.l2 w8 HG8.out).row (HOD.out.lp w8 HG8.out).row (HOD.out.lr w8 HG8.out)
   (enters_of Tryz.func107 (by kernel_rfl) (by kernel_rfl))
   (fun W k ak ck hW hk hl => powq_any q b B0 B1 ck rr ak (rat rows k) W h3 h4 (hD8.step hW).hp ((hW.cell (p := ⟨B0, 0, none⟩) (heap_lt x0)).trans x0) ((hW.cell (p := ⟨B1, 0, none⟩) (heap_lt x1)).trans x1) (by have := (HFF.out.fr k hk).2; omega) (HFF.out.fr k hk).1 hrb.1 hrb.2 hl.row))
  rw [<- HT2.out, <- H2.out, <- H4.out, <- H5.out] at HA1
  obtain ⟨g0, g1, g2, g3, p0, p1, p2, p3, p4, p5⟩ := HK.out w8 HG8.out
  clear hD8 x0 x1 x2
  cases hT2 : T2 with
  | false =>
   rw [hT2] at HA1
   have HNO : Hid (¬ (T1 = true /\ T2 = true /\ T3 = true)) := fun h => by
    have := h.2.1
    rw [hT2] at this
    cases this
   clear hT2
   go_wp2_with fail
   refine HA1.out.mono ?_
   rintro e w9 ⟨rfl, hb9⟩
   have HG9 := hid (gb_trans HG8.out (gb_below hb9))
   have HP9 := hid (HP8.out.below hb9)
   clear hb9 HA1 g0 g1 g2 g3 p0 p1 p2 p3 p4 p5
   go_wp2_with fail
   go_ret2
   exact ⟨fun h => absurd h HNO.out, fun _ => rfl, HP9.out, HKW.out _ HG9.out⟩
  | true =>
   rw [hT2] at HA1
   have HT2T := hid hT2
   clear hT2
   go_wp2_with fail
   refine HA1.out.mono ?_
   rintro e w9 ⟨rfl, hb9⟩
   have HG9 := hid (gb_trans HG8.out (gb_below hb9))
   have HP9 := hid (HP8.out.below hb9)
   have HG69 : Hid (w6.grownBy w9 (some c)) := gb_trans HG68.out (gb_below hb9)
   clear hb9 HA1 g0 g1 g2 g3 p0 p1 p2 p3 p4 p5 HG8 HP8 HG68
   have hD9 := HOD.out.dm w9 HG9.out
   obtain ⟨_, _, x2⟩ := HQ68.out w9 HG69.out
   have HA2 := hid (agrees_any q b d N 85 c3 cp cr #[.pointer (some ⟨E0, 0, none⟩), .pointer (some ⟨E1, 0, none⟩)] (fun l => dtz q l.length l L1) r t a3 ap ar (.int .i64 (hi : Int)) (.int .i64 (lo : Int)) (.slice an' n6 cn) point ps rows w9 hD9 (by have := HFF.out.m3; omega) (by have := HFF.out.mp; omega) (by rw [HPR.out]; exact Nat.le_refl _) HFF.out.f3 (HOD.out.l3 w9 HG9.out).row (HOD.out.lp w9 HG9.out).row (HOD.out.lr w9 HG9.out)
    (enters_of Tryz.func85 (by kernel_rfl) (by kernel_rfl))
    (fun W k ak ck hW hk hl => extq_any q b w5.heap.size E0 E1 ck ak (rat rows k) L1 W h3 h4 (hD9.step hW).hp (x2.below hW) (by rw [HLL.out, wiB_at HWR.out hk]; exact Nat.le_refl _) (by have := (HFF.out.fr k hk).2; omega) (HFF.out.fr k hk).1 (by rw [HL1.out]; exact wgL_fits h4 h3 _) hl.row))
   rw [<- HT3.out, <- H3.out, <- H4.out, <- H5.out] at HA2
   obtain ⟨g0, g1, g2, g3, p0, p1, p2, p3, p4, p5⟩ := HK.out w9 HG9.out
   clear hD9 x2
   cases hT3 : T3 with
   | false =>
    rw [hT3] at HA2
    have HNO : Hid (¬ (T1 = true /\ T2 = true /\ T3 = true)) := fun h => by
     have := h.2.2
     rw [hT3] at this
     cases this
    clear hT3
    go_wp2_with fail
    refine HA2.out.mono ?_
    rintro e w10 ⟨rfl, hb10⟩
    have HG10 := hid (gb_trans HG9.out (gb_below hb10))
    have HP10 := hid (HP9.out.below hb10)
    clear hb10 HA2 g0 g1 g2 g3 p0 p1 p2 p3 p4 p5
    go_wp2_with fail
    go_ret2
    exact ⟨fun h => absurd h HNO.out, fun _ => rfl, HP10.out, HKW.out _ HG10.out⟩
   | true =>
    rw [hT3] at HA2
    have HYES : Hid (T1 = true /\ T2 = true /\ T3 = true) := ⟨HTT.out, HT2T.out, hT3⟩
    clear hT3
    go_wp2_with fail
    refine HA2.out.mono ?_
    rintro e w10 ⟨rfl, hb10⟩
    have HG10 := hid (gb_trans HG9.out (gb_below hb10))
    have HP10 := hid (HP9.out.below hb10)
    have HGX : Hid (wd.grownBy w10.drew (some c)) := gb_trans HG10.out (gb_below (Below.refl _ _).drew)
    have HPX : Hid (PCh N0 q n w10.drew c (pld q n a D2)) := HP10.out.below (Below.refl _ _).drew
    have hdr : (at'.drop hi).length = v - hi := by rw [List.length_drop, HAT.out]
    have hlov : v - hi = lo := by rw [HLO.out, HHI.out]
    have HX2 : Hid (∀ W, wd.grownBy W (some c) -> Calls Tryz.prog 34 #[.agg #[.pointer (some ⟨b, 0, none⟩), .pointer (some ⟨d, 0, none⟩), .int .i64 (hi : Int), .int .i64 (lo : Int)], .slice (if c4 = hi then a4 else a4.map (fun x => x.add hi)) (v - hi) (c4 - hi)] W fun e w' => ∃ B0 B1, e = .returned (.func (.func 85) #[] #[.pointer (some ⟨B0, 0, none⟩), .pointer (some ⟨B1, 0, none⟩)]) /\ ExQ w' W.heap.size B0 B1 b (wgL q (at'.drop hi)) /\ Below W.heap.size W w') := fun W hW => by
     have hD2 := HOD.out.dm W hW
     have hl4 := HOD.out.l4 W hW
     have h := extend_any q b (c4 - hi) (.pointer (some ⟨d, 0, none⟩)) (hi : Int) (lo : Int) (if c4 = hi then a4 else a4.map (fun x => x.add hi)) (at'.drop hi) W h3 h4 hD2.hp (by rw [hdr]; omega) (fun j hj => by
      have := HFF.out.f4.all (hi + j)
      simp only [zat, List.getElem?_drop] at this ⊢
      exact this) (fun k hk => by
      rw [hdr] at hk
      obtain ⟨b', o', e1, e2, e3⟩ := hl4.row (hi + k) (by rw [HAT.out]; omega)
      have hroom := hl4.room
      rw [HAT.out] at hroom
      refine ⟨b', o' + hi, ?_, e2, ?_⟩
      ·rw [if_neg (by omega), e1]
       simp only [Option.map_some, Addr.add]
       split
       ·next h0 => rw [h0, Nat.add_zero]
       ·rfl
      ·rw [show o' + hi + k = o' + (hi + k) from by omega, e3]
       simp only [zat, List.getElem?_drop])
     rw [hdr] at h
     exact h
    have HQ3 : Hid (∀ (W : World) (F0 F1 : Nat), wd.grownBy W (some c) -> ExQ W w10.drew.heap.size F0 F1 b (wgL q (at'.drop hi)) -> Calls Tryz.prog 85 #[.slice a3 n3 c3, .pointer (some ⟨F0, 0, none⟩), .pointer (some ⟨F1, 0, none⟩)] W fun e w' => e = .returned (.int .i64 VV) /\ Below W.heap.size W w') := fun W F0 F1 hW hx => by
     have h := extq_any q b w10.drew.heap.size F0 F1 c3 a3 point (wgL q (at'.drop hi)) W h3 h4 (HOD.out.dm W hW).hp hx (by rw [wgL_len, hdr, hlov, HPT.out]; exact Nat.le_refl _) (by have := HFF.out.m3; omega) HFF.out.f3 (wgL_fits h4 h3 _) (HOD.out.l3 W hW).row
     rw [<- HVV.out, <- H3.out] at h
     exact h
    obtain ⟨AA, hAA⟩ : ∃ AA, AA = (if c4 = hi then a4 else a4.map (fun x => x.add hi)) := ⟨_, rfl⟩
    rw [<- hAA] at HX2
    have HAA := hid hAA
    have hlow : (0 : Int) <= (hi : Int) := by omega
    clear hAA
    clear hb10 HA2 g0 g1 g2 g3 p0 p1 p2 p3 p4 p5 hdr hlov HG9 HP9 HG69 HQ68 HT1 HT2 HT3 HL1 HVV
    go_wp2_with fail
    refine wp_region_held_drew (S := fun W => W.cell? ⟨G, 0, none⟩ = some (.pointer (some ⟨b, 0, none⟩)) /\ W.cell? ⟨G, 1, none⟩ = some (.pointer (some ⟨d, 0, none⟩)) /\ W.cell? ⟨G, 2, none⟩ = some (.int .i64 (hi : Int)) /\ W.cell? ⟨G, 3, none⟩ = some (.int .i64 (lo : Int)) /\ W.cell? ⟨P, 0, none⟩ = some (.slice a1 n1 c1) /\ W.cell? ⟨P, 1, none⟩ = some (.slice a2 n2 c2) /\ W.cell? ⟨P, 2, none⟩ = some (.slice a3 n3 c3) /\ W.cell? ⟨P, 3, none⟩ = some (.slice ap n4 cp) /\ W.cell? ⟨P, 4, none⟩ = some (.slice ar n5 cr) /\ W.cell? ⟨P, 5, none⟩ = some (.slice an' n6 cn)) (by kernel_rfl) (HK.out _ HGX.out) (fun hHeld => ?_)
    refine wpAnyH_takeU (i := 0) (v := .agg #[.pointer (some ⟨b, 0, none⟩), .pointer (some ⟨d, 0, none⟩), .int .i64 (hi : Int), .int .i64 (lo : Int)]) rfl (by kernel_rfl) (by kernel_rfl) (by kernel_rfl) (fun _ _ _ h => h) (by rfl) (fun W hC => by (obtain ⟨y0, y1, y2, y3, y4, y5, y6, y7, y8, y9⟩ := hC); go_simp) hHeld ?_
    simp only [Act.put, List.setIfInBounds_toArray, List.set_cons_zero, List.set_cons_succ]
    refine wpAnyH_takeU (i := 1) (v := .slice a4 v c4) rfl (by kernel_rfl) (by kernel_rfl) (by kernel_rfl) (fun _ _ _ h => h) (by rfl) (fun W hC => by go_simp) hHeld ?_
    simp only [Act.put, List.setIfInBounds_toArray, List.set_cons_zero, List.set_cons_succ]
    refine wpAnyH_takeU (i := 2) (v := .pointer (some ⟨G, 2, none⟩)) rfl (by kernel_rfl) (by kernel_rfl) (by kernel_rfl) (fun _ _ _ h => h) (by rfl) (fun W hC => by go_simp) hHeld ?_
    simp only [Act.put, List.setIfInBounds_toArray, List.set_cons_zero, List.set_cons_succ]
    refine wpAnyH_takeU (i := 3) (v := .int .i64 (hi : Int)) rfl (by kernel_rfl) (by kernel_rfl) (by kernel_rfl) (fun _ _ _ h => h) (by rfl) (fun W hC => by (obtain ⟨y0, y1, y2, y3, y4, y5, y6, y7, y8, y9⟩ := hC); go_simp) hHeld ?_
    simp only [Act.put, List.setIfInBounds_toArray, List.set_cons_zero, List.set_cons_succ]
    refine wpAnyH_takeU (i := 4) (v := .slice AA (v - hi) (c4 - hi)) rfl (by kernel_rfl) (by kernel_rfl) (by kernel_rfl) (fun _ _ _ h => h) (by rfl) (fun W hC => by rw [HAA.out]; go_simp) hHeld ?_
    simp only [Act.put, List.setIfInBounds_toArray, List.set_cons_zero, List.set_cons_succ]
    refine wpAnyH_takeU (i := 6) (v := .pointer (some ⟨P, 2, none⟩)) rfl (by kernel_rfl) (by kernel_rfl) (by kernel_rfl) (fun _ _ _ h => h) (by rfl) (fun W hC => by go_simp) hHeld ?_
    simp only [Act.put, List.setIfInBounds_toArray, List.set_cons_zero, List.set_cons_succ]
    refine wpAnyH_takeU (i := 7) (v := .slice a3 n3 c3) rfl (by kernel_rfl) (by kernel_rfl) (by kernel_rfl) (fun _ _ _ h => h) (by rfl) (fun W hC => by (obtain ⟨y0, y1, y2, y3, y4, y5, y6, y7, y8, y9⟩ := hC); go_simp) hHeld ?_
    simp only [Act.put, List.setIfInBounds_toArray, List.set_cons_zero, List.set_cons_succ]
    refine wpAnyH_ready (rs := [5]) (by kernel_rfl) (by simp) ?_
    refine AllReadyH.consU rfl (fun K' hK' => ?_) AllReadyH.nil
    go_simp
    refine (HX2.out _ HGX.out).mono ?_
    rintro e w11 ⟨F0, F1, rfl, hx11, hb11⟩
    have HG11 := hid (gb_trans HGX.out (gb_below hb11))
    have HP11 := hid (HPX.out.below hb11)
    have HQQ := hid (HQ3.out w11 F0 F1 HG11.out hx11)
    refine hK'.out _ _ (HK.out w11 HG11.out) (fun hHeld => ?_)
    clear hK' K'
    refine wpAnyH_ready (rs := [8]) (by kernel_rfl) (by simp) ?_
    refine AllReadyH.consU rfl (fun K' hK' => ?_) AllReadyH.nil
    go_simp
    refine (HQQ.out).mono ?_
    rintro e w12 ⟨rfl, hb12⟩
    have HG12 := hid (gb_trans HG11.out (gb_below hb12))
    have HP12 := hid (HP11.out.below hb12)
    refine hK'.out _ _ (HK.out w12 HG12.out) (fun hHeld => ?_)
    clear hK' K'
    refine wpAnyH_takeU (i := 9) (v := .int .i64 VV) rfl (by kernel_rfl) (by kernel_rfl) (by kernel_rfl) (fun _ _ _ h => h) (by rfl) (fun W hC => by go_simp) hHeld ?_
    simp only [Act.put, List.setIfInBounds_toArray, List.set_cons_zero, List.set_cons_succ]
    refine wpAnyH_takeU (i := 10) (v := .bool true) rfl (by kernel_rfl) (by kernel_rfl) (by kernel_rfl) (fun _ _ _ h => h) (by rfl) (fun W hC => by go_simp) hHeld ?_
    simp only [Act.put, List.setIfInBounds_toArray, List.set_cons_zero, List.set_cons_succ]
    refine wpAnyH_done (by kernel_rfl) ?_ _
    go_wp2_with fail
    go_ret2
    exact ⟨fun _ => rfl, fun h => absurd HYES.out h, HP12.out, HKW.out _ HG12.out⟩
theorem dvd_modsub (a : Int) (q : Nat) : (q : Int) ∣ a % (q : Int) - a := ⟨-(a / (q : Int)), by
 rw [Int.emod_def, Int.mul_neg]
 generalize (q : Int) * (a / (q : Int)) = z
 omega⟩
theorem sm_grid (f : Nat -> Int) (b : Nat) : ∀ a, Dom.sm f (a * b) = Dom.sm (fun i => Dom.sm (fun j => f (i * b + j)) b) a
 | 0 => by simp [Dom.sm]
 | a + 1 => by
  rw [Nat.succ_mul, Sum.sm_split, sm_grid f b a]
  rfl
theorem wgt_join (at' : Nat -> Int) (hi : Nat) : ∀ (lo i j : Nat), j < 2 ^ lo -> Sum.wgt at' (hi + lo) (i * 2 ^ lo + j) = Sum.wgt at' hi i * Sum.wgt (fun k => at' (hi + k)) lo j
 | 0, i, j, hj => by
  obtain rfl : j = 0 := by simpa using hj
  simp [Sum.wgt, Sum.prz]
 | lo + 1, i, j, hj => by
  obtain ⟨b, hb⟩ : ∃ b, b = j % 2 := ⟨_, rfl⟩
  obtain ⟨j', hj'⟩ : ∃ j', j' = j / 2 := ⟨_, rfl⟩
  have e1 : j = 2 * j' + b := by omega
  have e2 : i * 2 ^ (lo + 1) + j = 2 * (i * 2 ^ lo + j') + b := by
   rw [e1, Nat.pow_succ, Nat.mul_add]
   have : i * (2 ^ lo * 2) = 2 * (i * 2 ^ lo) := by rw [<- Nat.mul_assoc, Nat.mul_comm]
   omega
  have h2 : j' < 2 ^ lo := by rw [Nat.pow_succ] at hj; omega
  rw [e2, <- Nat.add_assoc, wgt_two at' (hi + lo) _ b (by omega), wgt_join at' hi lo i j' h2, e1, wgt_two _ lo j' b (by omega), Int.mul_assoc]
theorem wgt_samep {f g : Nat -> Int} {v : Nat} (i : Nat) (h : ∀ j, j < v -> f j = g j) : Sum.wgt f v i = Sum.wgt g v i := by
 have h1 := Sum.ext_same (t := fun k => if k = i then 1 else 0) (u := fun k => if k = i then 1 else 0) (v := v) (fun _ _ => rfl) h
 unfold Sum.wgt
 refine Sum.prz_same (fun k hk => ?_)
 rw [h _ (by omega)]
theorem evz_smr {q M st : Nat} (h3 : 3 <= q) (L : List Int) (rows : List (List Int)) (x : Int) (hM : rows.length = M) (hw : ∀ k, k < M -> (rat rows k).length = st) : evz q (smr q M L rows st) x = dtz q M L (ls (fun i => evz q (rat rows i) x) M) := by
 rw [evz_dtz h3, smr_len]
 unfold dtz
 refine emod_of_dvd ?_
 have e1 : (q : Int) ∣ Dom.sm (fun m => zat (pwl q x st) m * zat (smr q M L rows st) m) st - Dom.sm (fun m => Dom.sm (fun i => zat (pwl q x st) m * (zat L i * zat (rat rows i) m)) M) st := by
  refine Dom.sm_congr (fun m hm => ?_)
  unfold smr
  rw [ls_at _ _ _ hm, Dom.sm_mul]
  unfold dtz
  have h : (q : Int) ∣ (Dom.sm (fun i => zat L i * zat (pgc rows m) i) M) % (q : Int) - Dom.sm (fun i => zat L i * zat (rat rows i) m) M := by
   rw [Dom.sm_same (f := fun i => zat L i * zat (pgc rows m) i) (g := fun i => zat L i * zat (rat rows i) m) (fun i hi => by show zat L i * zat (pgc rows m) i = _; rw [pgc_at m (by omega)])]
   exact dvd_modsub _ _
  rw [<- Int.mul_sub]
  exact Int.dvd_mul_of_dvd_right h
 have e2 : (q : Int) ∣ Dom.sm (fun i => zat L i * zat (ls (fun i => evz q (rat rows i) x) M) i) M - Dom.sm (fun i => Dom.sm (fun m => zat (pwl q x st) m * (zat L i * zat (rat rows i) m)) st) M := by
  refine Dom.sm_congr (fun i hi => ?_)
  rw [ls_at _ _ _ hi, evz_dtz h3, hw i hi]
  unfold dtz
  rw [Dom.sm_same (f := fun m => zat (pwl q x st) m * (zat L i * zat (rat rows i) m)) (g := fun m => zat L i * (zat (pwl q x st) m * zat (rat rows i) m)) (fun m _ => by rw [Int.mul_left_comm]), Dom.sm_mul, <- Int.mul_sub]
  exact Int.dvd_mul_of_dvd_right (dvd_modsub _ _)
 rw [Dom.sm_swap] at e1
 have := Int.dvd_sub e1 e2
 rwa [show ∀ a b c : Int, a - c - (b - c) = a - b from fun a b c => by omega] at this
theorem col_ls {q N M : Nat} {s r : Int} {rows : List (List Int)} {j : Nat} (hM : rows.length = M) (hj : j < N) : rat (cll q s r N rows) j = ls (fun i => evz q (rat rows i) (Dom.pt q s r j)) M := by
 rw [cll_at hj]
 unfold pgc ls
 rw [List.map_map]
 refine List.ext_getElem (by simp [hM]) (fun i h1 h2 => ?_)
 rw [List.getElem_map, List.getElem_map, List.getElem_range]
 have hi : i < rows.length := by simpa using h1
 show zat (vll q s r N (rows[i]'hi)) j = evz q (rat rows i) _
 unfold vll
 rw [ls_at _ _ _ hj]
 unfold rat
 rw [List.getD_eq_getElem?_getD, List.getElem?_eq_getElem hi]
 rfl
theorem elr_red {q : Nat} (f : Nat -> Int) (M : Nat) (hf : ∀ i, 0 <= f i /\ f i < q) : elr q (ls f M) = ls f M := by
 unfold elr
 rw [ls_len]
 unfold ls
 refine List.ext_getElem (by simp) (fun i h1 h2 => ?_)
 rw [List.getElem_map, List.getElem_map, List.getElem_range]
 have hi : i < M := by simpa using h1
 have h := ls_at f M i hi
 unfold ls at h
 rw [h]
 exact Int.emod_eq_of_lt (hf i).1 (hf i).2
theorem shown_col {q N M : Nat} (h3 : 3 <= q) {s r : Int} {rows : List (List Int)} {ps : List Int} {k : Nat} (hM : rows.length = M) (hk : k < ps.length) (hp : 0 <= zat ps k /\ zat ps k < (N : Int)) : rat (shw q (cll q s r N rows) ps) k = ls (fun i => evz q (rat rows i) (Dom.pt q s r (zat ps k).toNat)) M := by
 have h : rat (shw q (cll q s r N rows) ps) k = elr q (rat (cll q s r N rows) (zat ps k).toNat) := by
  unfold shw
  unfold rat
  rw [List.getD_eq_getElem?_getD, List.getElem?_map, List.getElem?_eq_getElem hk]
  show elr q (List.getD _ (ps[k]).toNat []) = _
  have e : zat ps k = ps[k] := by
   unfold zat
   rw [List.getElem?_eq_getElem hk]
   rfl
  rw [e]
 rw [h, col_ls hM (by omega)]
 exact elr_red _ _ (fun i => evz_bounds q _ _ h3)
theorem agB_smr {q N M st : Nat} (h3 : 3 <= q) {s r : Int} (L : List Int) {rows : List (List Int)} {ps : List Int} (hM : rows.length = M) (hw : ∀ k, k < M -> (rat rows k).length = st) (hp : ∀ k, k < ps.length -> 0 <= zat ps k /\ zat ps k < (N : Int)) (A : List Int -> Int) (hA : ∀ l : List Int, l.length = M -> A l = dtz q M L l) : agB q N r s (smr q M L rows st) ps (shw q (cll q s r N rows) ps) A = true := by
 unfold agB
 rw [decide_eq_true_eq]
 intro k hk
 rw [Int.emod_eq_of_lt (hp k hk).1 (hp k hk).2, shown_col h3 hM hk (hp k hk), hA _ (ls_len _ _)]
 exact evz_smr h3 L rows _ hM hw
theorem opened_ext {q hi lo : Nat} (t at' : List Int) (ha : at'.length = hi + lo) :
  dtz q (2 ^ lo) (smr q (2 ^ hi) (wgL q (at'.take hi)) (rwl (2 ^ lo) (2 ^ hi) t) (2 ^ lo)) (wgL q (at'.drop hi)) = Sum.ext (zat t) (zat at') (hi + lo) % (q : Int) := by
 have hl1 : (at'.take hi).length = hi := by rw [List.length_take]; omega
 have hl2 : (at'.drop hi).length = lo := by rw [List.length_drop]; omega
 unfold dtz Sum.ext
 refine emod_of_dvd ?_
 have hP : (2 : Nat) ^ (hi + lo) = 2 ^ hi * 2 ^ lo := Nat.pow_add _ _ _
 rw [hP, sm_grid, Dom.sm_swap]
 refine Dom.sm_congr (fun j hj => ?_)
 have e1 : (q : Int) ∣ zat (smr q (2 ^ hi) (wgL q (at'.take hi)) (rwl (2 ^ lo) (2 ^ hi) t) (2 ^ lo)) j - Dom.sm (fun i => Sum.wgt (zat at') hi i * zat t (i * 2 ^ lo + j)) (2 ^ hi) := by
  unfold smr
  rw [ls_at _ _ _ hj]
  unfold dtz
  have e : (q : Int) ∣ Dom.sm (fun i => zat (wgL q (at'.take hi)) i * zat (pgc (rwl (2 ^ lo) (2 ^ hi) t) j) i) (2 ^ hi) - Dom.sm (fun i => Sum.wgt (zat at') hi i * zat t (i * 2 ^ lo + j)) (2 ^ hi) := by
   refine Dom.sm_congr (fun i hi' => ?_)
   have g1 : zat (wgL q (at'.take hi)) i = Sum.wgt (zat at') hi i % (q : Int) := by
    unfold wgL
    rw [hl1, ls_at _ _ _ hi']
    congr 1
    refine wgt_samep i (fun k hk => ?_)
    unfold zat
    rw [List.getElem?_take_of_lt hk]
   have g2 : zat (pgc (rwl (2 ^ lo) (2 ^ hi) t) j) i = zat t (i * 2 ^ lo + j) := by
    rw [pgc_at j (by rw [rwl_len]; exact hi'), rwl_zat hi' hj, Nat.mul_comm]
   rw [g1, g2, <- Int.sub_mul]
   exact Int.dvd_mul_of_dvd_left (dvd_modsub _ _)
  have e' : (q : Int) ∣ (Dom.sm (fun i => zat (wgL q (at'.take hi)) i * zat (pgc (rwl (2 ^ lo) (2 ^ hi) t) j) i) (2 ^ hi)) % (q : Int) - Dom.sm (fun i => zat (wgL q (at'.take hi)) i * zat (pgc (rwl (2 ^ lo) (2 ^ hi) t) j) i) (2 ^ hi) := dvd_modsub _ _
  have := Int.dvd_add e' e
  rwa [show ∀ a b c : Int, a - b + (b - c) = a - c from fun a b c => by omega] at this
 have e2 : zat (wgL q (at'.drop hi)) j = Sum.wgt (fun k => zat at' (hi + k)) lo j % (q : Int) := by
  unfold wgL
  rw [hl2, ls_at _ _ _ hj]
  congr 1
  refine wgt_samep j (fun k hk => ?_)
  unfold zat
  rw [List.getElem?_drop]
 have e3 : Dom.sm (fun i => zat t (i * 2 ^ lo + j) * Sum.wgt (zat at') (hi + lo) (i * 2 ^ lo + j)) (2 ^ hi) = Dom.sm (fun i => Sum.wgt (zat at') hi i * zat t (i * 2 ^ lo + j)) (2 ^ hi) * Sum.wgt (fun k => zat at' (hi + k)) lo j := by
  rw [Int.mul_comm, <- Dom.sm_mul]
  refine Dom.sm_same (fun i _ => ?_)
  rw [wgt_join (zat at') hi lo i j hj]
  rw [Int.mul_comm (zat t _), Int.mul_assoc, Int.mul_comm (Sum.wgt (zat at') hi i), Int.mul_assoc, Int.mul_comm (zat t _)]
 rw [e3, e2]
 generalize zat (smr q (2 ^ hi) (wgL q (at'.take hi)) (rwl (2 ^ lo) (2 ^ hi) t) (2 ^ lo)) j = a at *
 generalize Dom.sm (fun i => Sum.wgt (zat at') hi i * zat t (i * 2 ^ lo + j)) (2 ^ hi) = b at *
 generalize Sum.wgt (fun k => zat at' (hi + k)) lo j = c at *
 have h1 : (q : Int) ∣ a * (c % (q : Int) - c) := Int.dvd_mul_of_dvd_right (dvd_modsub _ _)
 have h2 : (q : Int) ∣ (a - b) * c := Int.dvd_mul_of_dvd_left e1
 have := Int.dvd_add h1 h2
 rwa [show a * (c % (q : Int) - c) + (a - b) * c = a * (c % (q : Int)) - b * c from by rw [Int.mul_sub, Int.sub_mul]; omega] at this
end Go.Proofs.YtlhjifpomchnfaaGreatDoor
