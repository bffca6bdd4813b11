
import Derived.Test.YtjlngcmkgkiplaaGreatDoorWcAZ
import Derived.Test.YtjlngcmkgkiplaaGreatDoorWcAX
import Derived.Test.YtjlngcmkgkiplaaGreatDoorWcAK
import Derived.Test.YtjlngcmkgkiplaaGreatDoorWcAV
import Derived.Test.YtjlngcmkgkiplaaGreatDoorWcAR
import Derived.Test.YtjlngcmkgkiplaaGreatDoorFld
set_option maxRecDepth 1000000
set_option maxHeartbeats 8000000
namespace Go.Proofs.YtjlngcmkgkiplaaGreatDoor
open Go.RowKit Go.Maps
theorem rdivided_any (t q n g rH rD nL cL kd : Nat) (size out x y a gg X pt : Int) (aL : Option Addr) (w : World) (hpr : Num.Prime q) (h3 : 3 <= q) (h4 : q <= 2147483647) (hT : RTA w t q n g rH rD size out aL nL cL x y a gg) (hn0 : 0 < n) (hn : n <= 512) (hrH : rH < q) (hX : I64 X) (hpt : I64 pt) (hkd : kd < 4) :
  Calls Tryz.prog 67 #[.pointer (some ⟨t, 0, none⟩), .int .i64 X, .int .i64 (kd : Int), .int .i64 pt] w fun e w' => e = .returned (.int .i64 (X * ivz q n (Dom.pt q 1 rH (n - 1)) pt kd % (q : Int))) /\ Below w.heap.size w w' := by
 obtain ⟨n1, hn1⟩ := exE (n - 1)
 have e1 : (n : Int) - 1 = (n1 : Int) := by omega
 have ew : IntKind.i64.wrap (n1 : Int) = (n1 : Int) := by rw [IntKind.wrap_i64]; omega
 rw [<- hn1]
 have HPT := hid (fun W => rpoint_any q n1 (n : Int) rH 1 W h3 h4 (by omega) (by omega) (by omega) (by omega) (by omega))
 have HPW := hid (fun W => rpow_any q pt (n : Int) W hpr h3 h4 hpt.1 hpt.2 (by omega) (by omega))
 have blast := pt_bd h3 1 (rH : Int) n1
 obtain ⟨last, hlast⟩ := exE (Dom.pt q 1 (rH : Int) n1)
 rw [<- hlast] at HPT blast ⊢
 have bpw : 0 <= ((powz q pt (n : Int) : Nat) : Int) /\ ((powz q pt (n : Int) : Nat) : Int) < (q : Int) := by rw [powz_int q n pt hpr h3 hn0]; exact emod_bounds _ q h3
 have HIV : Hid (∀ kd, ivz q n last pt kd = ivz q n last pt kd) := fun _ => rfl
 obtain ⟨pw, hpw⟩ : ∃ pw : Int, pw = ((powz q pt (n : Int) : Nat) : Int) := ⟨_, rfl⟩
 rw [<- hpw] at HPW bpw
 have bm := fun a => emod_bounds a q h3
 have HSA := hid (fun W => rsub_any q pw 1 W h3 h4 (by omega) (by omega) (by omega) (by omega))
 have HSE := hid (fun W => rsub_any q pt last W h3 h4 hpt.1 hpt.2 (by omega) (by omega))
 have HSB := hid (fun W => rsub_any q pt 1 W h3 h4 hpt.1 hpt.2 (by omega) (by omega))
 have ba := bm (pw - 1)
 have be := bm (pt - last)
 have bb := bm (pt - 1)
 have HR : Hid (X * ivz q n last pt kd % (q : Int) = (if kd = 0 then X * (invn q ((pw - 1) % (q : Int)) : Int) % (q : Int) else if kd = 1 then (X * ((pt - last) % (q : Int)) % (q : Int)) * (invn q ((pw - 1) % (q : Int)) : Int) % (q : Int) else if kd = 2 then X * (invn q ((pt - 1) % (q : Int)) : Int) % (q : Int) else X * (invn q ((pt - last) % (q : Int)) : Int) % (q : Int))) := by
  unfold Hid ivz
  rw [<- hpw]
  have h5 : kd = 0 ∨ kd = 1 ∨ kd = 2 ∨ kd = 3 := by omega
  rcases h5 with rfl | rfl | rfl | rfl
  ·rfl
  ·simp only [Nat.one_ne_zero, if_true, if_false]
   rw [Int.mul_emod X, Int.emod_emod_of_dvd _ (Int.dvd_refl _), <- Int.mul_emod, Int.mul_emod (X * _ % _), Int.emod_emod_of_dvd _ (Int.dvd_refl _), <- Int.mul_emod, Int.mul_comm (invn q _ : Int), Int.mul_assoc]
  ·rfl
  ·rfl
 obtain ⟨R, hR⟩ := exE (X * ivz q n last pt kd % (q : Int))
 rw [<- hR] at HR ⊢
 obtain ⟨al, hal⟩ := exE ((pw - 1) % (q : Int))
 obtain ⟨en, hen⟩ := exE ((pt - last) % (q : Int))
 obtain ⟨bg, hbg⟩ := exE ((pt - 1) % (q : Int))
 rw [<- hal] at HSA ba HR
 rw [<- hen] at HSE be HR
 rw [<- hbg] at HSB bb HR
 have bxe := bm (X * en)
 have HD0 := hid (fun W => rdiv_any q X al W h3 h4 hX.1 hX.2 (by omega) (by omega))
 have HM1 := hid (fun W => rmul_any q X en W h3 h4 hX.1 hX.2 (by omega) (by omega))
 have HD1 := hid (fun W => rdiv_any q (X * en % (q : Int)) al W h3 h4 (by omega) (by omega) (by omega) (by omega))
 have HD2 := hid (fun W => rdiv_any q X bg W h3 h4 hX.1 hX.2 (by omega) (by omega))
 have HD3 := hid (fun W => rdiv_any q X en W h3 h4 hX.1 hX.2 (by omega) (by omega))
 have HCS : Hid (∀ W, Below w.heap.size w W -> W.cell? ⟨t, 0, none⟩ = some (.int .i64 q) /\ W.cell? ⟨t, 4, none⟩ = some (.int .i64 (n : Int)) /\ W.cell? ⟨t, 5, none⟩ = some (.int .i64 q) /\ W.cell? ⟨t, 6, none⟩ = some (.int .i64 (n : Int)) /\ W.cell? ⟨t, 7, none⟩ = some (.int .i64 1) /\ W.cell? ⟨t, 8, none⟩ = some (.int .i64 rH)) := fun W hW => by
  have h := hT.below hW hT.lt
  exact ⟨h.cell 0 rfl, h.cell 4 rfl, h.cell 5 rfl, h.cell 6 rfl, h.cell 7 rfl, h.cell 8 rfl⟩
 clear hn1 hlast hpw hR hal hen hbg blast bpw bm ba be bb hT hpr HIV hX hpt bxe
 go_enter Tryz.func67, Tryz.ntmps67
 go_wp2_with fail
 refine wp_region_held_drew (S := fun W => W.cell? ⟨t, 0, none⟩ = some (.int .i64 q) /\ W.cell? ⟨t, 4, none⟩ = some (.int .i64 (n : Int)) /\ W.cell? ⟨t, 5, none⟩ = some (.int .i64 q) /\ W.cell? ⟨t, 6, none⟩ = some (.int .i64 (n : Int)) /\ W.cell? ⟨t, 7, none⟩ = some (.int .i64 1) /\ W.cell? ⟨t, 8, none⟩ = some (.int .i64 rH)) (by kernel_rfl) (HCS.out w.drew (Below.refl _ _).drew) (fun hHeld => ?_)
 refine tkU 0 (.pointer (some ⟨t, 0, none⟩)) rfl (fun W hC => by go_simp) hHeld ?_
 simp only [Act.put, aS0, aS1, aS2]
 refine tkU 1 (.pointer (some ⟨t, 0, none⟩)) rfl (fun W hC => by go_simp) hHeld ?_
 simp only [Act.put, aS0, aS1, aS2]
 refine tkU 2 (.pointer (some ⟨t, 5, none⟩)) rfl (fun W hC => by go_simp) hHeld ?_
 simp only [Act.put, aS0, aS1, aS2]
 refine tkU 3 (.agg #[.int .i64 q, .int .i64 (n : Int), .int .i64 1, .int .i64 rH]) rfl (fun W hC => by (obtain ⟨y0, y1, y2, y3, y4, y5⟩ := hC); go_simp) hHeld ?_
 simp only [Act.put, aS0, aS1, aS2]
 refine tkU 4 (.pointer (some ⟨t, 0, none⟩)) rfl (fun W hC => by go_simp) hHeld ?_
 simp only [Act.put, aS0, aS1, aS2]
 refine tkU 5 (.pointer (some ⟨t, 0, none⟩)) rfl (fun W hC => by go_simp) hHeld ?_
 simp only [Act.put, aS0, aS1, aS2]
 refine tkU 6 (.pointer (some ⟨t, 4, none⟩)) rfl (fun W hC => by go_simp) hHeld ?_
 simp only [Act.put, aS0, aS1, aS2]
 refine tkU 7 (.int .i64 (n : Int)) rfl (fun W hC => by (obtain ⟨y0, y1, y2, y3, y4, y5⟩ := hC); go_simp) hHeld ?_
 simp only [Act.put, aS0, aS1, aS2]
 refine tkU 8 (.int .i64 (n1 : Int)) rfl (fun W hC => by go_simp) hHeld ?_
 simp only [Act.put, aS0, aS1, aS2]
 refine wpAnyH_ready (rs := [9]) (by kernel_rfl) (by simp) ?_
 refine AllReadyH.consU rfl (fun K' hK' => ?_) AllReadyH.nil
 go_simp
 refine (HPT.out w.drew).mono ?_
 rintro e w1 ⟨rfl, hb1⟩
 have hb1' : Below w.heap.size w w1 := ⟨hb1.os, hb1.tape, hb1.output, hb1.size, hb1.block⟩
 have HB1 := hid hb1'
 refine hK'.out _ _ (HCS.out w1 hb1') (fun hHeld => ?_)
 clear hK' K'
 refine tkU 10 (.int .i64 last) rfl (fun W hC => by go_simp) hHeld ?_
 simp only [Act.put, aS0, aS1, aS2]
 refine wpAnyH_done (by kernel_rfl) ?_ _
 clear hHeld hb1 hb1' HPT
 go_wp2_with fail
 refine wp_region_held_drew (S := fun W => W.cell? ⟨t, 0, none⟩ = some (.int .i64 q) /\ W.cell? ⟨t, 4, none⟩ = some (.int .i64 (n : Int)) /\ W.cell? ⟨t, 5, none⟩ = some (.int .i64 q) /\ W.cell? ⟨t, 6, none⟩ = some (.int .i64 (n : Int)) /\ W.cell? ⟨t, 7, none⟩ = some (.int .i64 1) /\ W.cell? ⟨t, 8, none⟩ = some (.int .i64 rH)) (by kernel_rfl) (HCS.out w1.drew HB1.out.drew) (fun hHeld => ?_)
 refine tkU 0 (.pointer (some ⟨t, 0, none⟩)) rfl (fun W hC => by go_simp) hHeld ?_
 simp only [Act.put, aS0, aS1, aS2]
 refine tkU 1 (.pointer (some ⟨t, 0, none⟩)) rfl (fun W hC => by go_simp) hHeld ?_
 simp only [Act.put, aS0, aS1, aS2]
 refine tkU 2 (.pointer (some ⟨t, 0, none⟩)) rfl (fun W hC => by go_simp) hHeld ?_
 simp only [Act.put, aS0, aS1, aS2]
 refine tkU 3 (.int .i64 q) rfl (fun W hC => by (obtain ⟨y0, y1, y2, y3, y4, y5⟩ := hC); go_simp) hHeld ?_
 simp only [Act.put, aS0, aS1, aS2]
 refine tkU 4 (.int .i64 pt) rfl (fun W hC => by go_simp) hHeld ?_
 simp only [Act.put, aS0, aS1, aS2]
 refine tkU 5 (.pointer (some ⟨t, 0, none⟩)) rfl (fun W hC => by go_simp) hHeld ?_
 simp only [Act.put, aS0, aS1, aS2]
 refine tkU 6 (.pointer (some ⟨t, 0, none⟩)) rfl (fun W hC => by go_simp) hHeld ?_
 simp only [Act.put, aS0, aS1, aS2]
 refine tkU 7 (.pointer (some ⟨t, 4, none⟩)) rfl (fun W hC => by go_simp) hHeld ?_
 simp only [Act.put, aS0, aS1, aS2]
 refine tkU 8 (.int .i64 (n : Int)) rfl (fun W hC => by (obtain ⟨y0, y1, y2, y3, y4, y5⟩ := hC); go_simp) hHeld ?_
 simp only [Act.put, aS0, aS1, aS2]
 refine wpAnyH_ready (rs := [9]) (by kernel_rfl) (by simp) ?_
 refine AllReadyH.consU rfl (fun K' hK' => ?_) AllReadyH.nil
 go_simp
 refine (HPW.out w1.drew).mono ?_
 rintro e w2 ⟨rfl, hw2⟩
 refine hK'.out _ _ (by rw [hw2]; exact HCS.out w1.drew HB1.out.drew) (fun hHeld => ?_)
 clear hK' K'
 refine tkU 10 (.int .i64 pw) rfl (fun W hC => by go_simp) hHeld ?_
 simp only [Act.put, aS0, aS1, aS2]
 refine wpAnyH_done (by kernel_rfl) ?_ _
 clear hHeld HPW
 have HB2 : Hid (Below w.heap.size w w2) := by unfold Hid; rw [hw2]; exact HB1.out.drew
 obtain ⟨y0, _⟩ := HCS.out w2 HB2.out
 clear hw2 HB1
 go_wp2_with fail
 refine (HSA.out w2).mono ?_
 rintro e w' ⟨rfl, hw'⟩
 have hw'' := hw'.symm
 subst hw''
 clear hw' HSA
 go_wp2_with fail
 refine (HSE.out w2).mono ?_
 rintro e w' ⟨rfl, hw'⟩
 have hw'' := hw'.symm
 subst hw''
 clear hw' HSE
 go_wp2_with fail
 refine (HSB.out w2).mono ?_
 rintro e w' ⟨rfl, hw'⟩
 have hw'' := hw'.symm
 subst hw''
 clear hw' HSB
 have h5 : kd = 0 ∨ kd = 1 ∨ kd = 2 ∨ kd = 3 := by omega
 rcases h5 with rfl | rfl | rfl | rfl
 ·go_wp2_with fail
  refine (HD0.out w2).mono ?_
  rintro e w' ⟨rfl, hw'⟩
  have hw'' := hw'.symm
  subst hw''
  clear hw'
  go_wp2_with fail
  go_ret
  exact ⟨by rw [HR.out]; rfl, HB2.out⟩
 ·go_wp2_with fail
  refine (HM1.out w2).mono ?_
  rintro e w' ⟨rfl, hw'⟩
  have hw'' := hw'.symm
  subst hw''
  clear hw'
  go_wp2_with fail
  refine (HD1.out w2).mono ?_
  rintro e w' ⟨rfl, hw'⟩
  have hw'' := hw'.symm
  subst hw''
  clear hw'
  go_wp2_with fail
  go_ret
  exact ⟨by rw [HR.out]; rfl, HB2.out⟩
 ·go_wp2_with fail
  refine (HD2.out w2).mono ?_
  rintro e w' ⟨rfl, hw'⟩
  have hw'' := hw'.symm
  subst hw''
  clear hw'
  go_wp2_with fail
  go_ret
  exact ⟨by rw [HR.out]; rfl, HB2.out⟩
 ·go_wp2_with fail
  refine (HD3.out w2).mono ?_
  rintro e w' ⟨rfl, hw'⟩
  have hw'' := hw'.symm
  subst hw''
  clear hw'
  go_wp2_with fail
  go_ret
  exact ⟨by rw [HR.out]; rfl, HB2.out⟩
theorem rproduct_any (t q n g rH rD nL cL cr : Nat) (size out x y a gg z z' : Int) (aL ar : Option Addr) (r : List Int) (w : World) (h3 : 3 <= q) (h4 : q <= 2147483647) (hT : RTA w t q n g rH rD size out aL nL cL x y a gg) (hx : I64 x) (hy : I64 y) (hz : I64 z) (hz' : I64 z') (hl : Lst w.heap.size w ar cr r) (hf : Fits r) (hr20 : 20 <= r.length) (hr2 : r.length <= 1000) :
  Calls Tryz.prog 64 #[.pointer (some ⟨t, 0, none⟩), .slice ar r.length cr, .int .i64 z, .int .i64 z'] w fun e w' => e = .returned (.int .i64 (pasz q r x y z z')) /\ Below w.heap.size w w' := by
 have hfit1 : FitsR [r] := fun k hk => by
  have hk0 : k = 0 := by simp at hk; omega
  subst hk0
  exact ⟨hf, by show r.length <= _; omega⟩
 have hge1 : allGe 20 [r] := fun k hk => by
  have hk0 : k = 0 := by simp at hk; omega
  subst hk0
  exact hr20
 obtain ⟨W0, hW0⟩ := exE (w.alloc (.cells #[.slice ar r.length cr] 26))
 have hb0 := blA hW0
 have hs0 := haA hW0
 have hz0 : W0.heap.size = w.heap.size + 1 := by rw [hW0]; simp
 have hLR : LstR W0.heap.size W0 (some ⟨w.heap.size, 0, none⟩) 1 [r] := ⟨fun k hk => by
  have hk0 : k = 0 := by simp at hk; omega
  subst hk0
  exact ⟨w.heap.size, 0, ar, cr, rfl, by omega, by simp [World.cell?, hs0, rat], (hl.below hb0).mono hb0.size⟩, by simp, fun e => by cases e⟩
 have HPA : Hid (∀ (W : World) (a v : Nat), Below W0.heap.size W0 W -> a + 4 <= 20 -> v + 4 <= 20 -> Calls Tryz.prog 96 #[.int .i64 q, .slice (some ⟨w.heap.size, 0, none⟩) 1 1, .int .i64 (a : Int), .int .i64 (v : Int)] W fun e w' => ∃ aa cc, e = .returned (.slice aa 4 cc) /\ LstC w'.heap.size w' aa cc ((rw4 r a v).map (red q)) /\ Below W.heap.size W w') := fun W a v hW h1 h2 => by
  have h := rpairs_any q 1 a v (some ⟨w.heap.size, 0, none⟩) [r] W h3 h4 ((hLR.below hW).mono hW.size) hfit1 (by simp) hge1 h1 h2
  refine h.mono ?_
  rintro e w' ⟨uv, rfl, hc, hb⟩
  rw [show pr4 q [r] a v = (rw4 r a v).map (red q) from by simp [pr4]] at hc
  obtain ⟨aa, cc, rfl, hC⟩ := lstC_of_owns hc
  exact ⟨aa, cc, by rw [List.length_map, rw4_len], hC, hb⟩
 have hcb : ∀ a v, CelB ((rw4 r a v).map (red q)) := fun a v k hk => by
  rw [List.length_map, rw4_len] at hk
  have e : cat ((rw4 r a v).map (red q)) k = red q (cat (rw4 r a v) k) := by simp [cat, rw4_len, hk]
  rw [e]
  have e1 := emod_bounds (cat (rw4 r a v) k).1 q h3
  have e2 := emod_bounds (cat (rw4 r a v) k).2 q h3
  unfold red
  simp only
  omega
 have HMK : Hid (∀ (W : World) (aa : Option Addr) (cc a v : Nat), LstC W.heap.size W aa cc ((rw4 r a v).map (red q)) -> Calls Tryz.prog 97 #[.int .i64 q, .slice aa 4 cc, .int .i64 x, .int .i64 y] W fun e w' => e = .returned (.int .i64 (prd q x y (rw4 r a v) 4)) /\ Below W.heap.size W w') := fun W aa cc a v hW => by
  have h := rmake_any q cc aa _ x y W h3 h4 hx.1 hx.2 hy.1 hy.2 (by rw [List.length_map, rw4_len]; omega) hW (hcb a v)
  rw [List.length_map, rw4_len, prd_red _ _ _ _ _ (by rw [rw4_len]; exact Nat.le_refl _)] at h
  exact h
 have bb := prd_bd (p := q) h3 x y (rw4 r 12 16) 4
 have ba := prd_bd (p := q) h3 x y (rw4 r 3 7) 4
 have HP1 := hid (fun W hW => HPA.out W 12 16 hW (by omega) (by omega))
 have HP2 := hid (fun W hW => HPA.out W 3 7 hW (by omega) (by omega))
 have HK1 := hid (fun W aa cc => HMK.out W aa cc 12 16)
 have HK2 := hid (fun W aa cc => HMK.out W aa cc 3 7)
 obtain ⟨pb, hpb⟩ := exE (prd q x y (rw4 r 12 16) 4)
 obtain ⟨pa, hpa⟩ := exE (prd q x y (rw4 r 3 7) 4)
 have HR : Hid (pasz q r x y z z' = (pb * z' % (q : Int) - pa * z % (q : Int)) % (q : Int)) := by unfold Hid pasz; rw [hpb, hpa, Int.mul_comm z', Int.mul_comm z]
 rw [<- hpb] at HK1 bb
 rw [<- hpa] at HK2 ba
 have HMB := hid (fun W => rmul_any q pb z' W h3 h4 (by omega) (by omega) hz'.1 hz'.2)
 have HMA := hid (fun W => rmul_any q pa z W h3 h4 (by omega) (by omega) hz.1 hz.2)
 have bm := fun a => emod_bounds a q h3
 have b1 := bm (pb * z')
 have b2 := bm (pa * z)
 have HSU := hid (fun W => rsub_any q (pb * z' % (q : Int)) (pa * z % (q : Int)) W h3 h4 (by omega) (by omega) (by omega) (by omega))
 rw [<- HR.out] at HSU
 generalize pasz q r x y z z' = R at *
 generalize pb * z' % (q : Int) = mb at *
 generalize pa * z % (q : Int) = ma at *
 have HCS : Hid (∀ W, Below w.heap.size w W -> W.cell? ⟨t, 0, none⟩ = some (.int .i64 q) /\ W.cell? ⟨t, 13, none⟩ = some (.int .i64 x) /\ W.cell? ⟨t, 14, none⟩ = some (.int .i64 y)) := fun W hW => by
  have h := hT.below hW hT.lt
  exact ⟨h.cell 0 rfl, h.cell 13 rfl, h.cell 14 rfl⟩
 obtain ⟨Gb, hGb⟩ := exE (w.heap.size)
 rw [<- hGb] at HP1 HP2
 have HB0 := hid hb0
 obtain ⟨y0, _⟩ := HCS.out W0 hb0
 have HGE := hid hGb
 obtain ⟨rl, hrl⟩ := exE (r.length)
 rw [<- hrl] at hW0 ⊢
 generalize (rw4 r 12 16).map (red q) = l1 at *
 generalize (rw4 r 3 7).map (red q) = l2 at *
 clear hfit1 hge1 hb0 hs0 hz0 hLR HPA hcb HMK bb ba hpb hpa bm b1 b2 hT hx hy hz hz' hl hf hr20 hr2 HR hrl
 go_enter Tryz.func64, Tryz.ntmps64
 rw [hW0] at y0
 go_wp2_with fail
 rw [<- hW0, <- hGb]
 rw [<- hW0] at y0
 clear hW0 hGb
 refine (HP1.out W0 (Below.refl _ _)).mono ?_
 rintro e w2 ⟨a1, c1, rfl, hC1, hb2⟩
 have HB02 := hid hb2
 have HB2 := hid (HB0.out.trans (hb2.mono HB0.out.size))
 have HM1 : Hid (Calls Tryz.prog 97 #[.int .i64 q, .slice a1 4 c1, .int .i64 x, .int .i64 y] w2.drew fun e w' => e = .returned (.int .i64 pb) /\ Below w2.heap.size w2.drew w') := HK1.out w2.drew a1 c1 (hC1.below (Below.refl _ _).drew)
 clear hC1 hb2 HP1 HK1 y0
 go_wp2_with fail
 refine wp_region_held_drew (S := fun W => W.cell? ⟨t, 0, none⟩ = some (.int .i64 q) /\ W.cell? ⟨t, 13, none⟩ = some (.int .i64 x) /\ W.cell? ⟨t, 14, none⟩ = some (.int .i64 y)) (by kernel_rfl) (HCS.out w2.drew HB2.out.drew) (fun hHeld => ?_)
 refine tkU 0 (.pointer (some ⟨t, 0, none⟩)) rfl (fun W hC => by go_simp) hHeld ?_
 simp only [Act.put, aS0, aS1, aS2]
 refine tkU 1 (.pointer (some ⟨t, 0, none⟩)) rfl (fun W hC => by go_simp) hHeld ?_
 simp only [Act.put, aS0, aS1, aS2]
 refine tkU 2 (.pointer (some ⟨t, 0, none⟩)) rfl (fun W hC => by go_simp) hHeld ?_
 simp only [Act.put, aS0, aS1, aS2]
 refine tkU 3 (.int .i64 q) rfl (fun W hC => by (obtain ⟨y0, y1, y2⟩ := hC); go_simp) hHeld ?_
 simp only [Act.put, aS0, aS1, aS2]
 refine tkU 4 (.slice a1 4 c1) rfl (fun W hC => by go_simp) hHeld ?_
 simp only [Act.put, aS0, aS1, aS2]
 refine tkU 5 (.pointer (some ⟨t, 0, none⟩)) rfl (fun W hC => by go_simp) hHeld ?_
 simp only [Act.put, aS0, aS1, aS2]
 refine tkU 6 (.pointer (some ⟨t, 0, none⟩)) rfl (fun W hC => by go_simp) hHeld ?_
 simp only [Act.put, aS0, aS1, aS2]
 refine tkU 7 (.pointer (some ⟨t, 13, none⟩)) rfl (fun W hC => by go_simp) hHeld ?_
 simp only [Act.put, aS0, aS1, aS2]
 refine tkU 8 (.int .i64 x) rfl (fun W hC => by (obtain ⟨y0, y1, y2⟩ := hC); go_simp) hHeld ?_
 simp only [Act.put, aS0, aS1, aS2]
 refine tkU 9 (.pointer (some ⟨t, 0, none⟩)) rfl (fun W hC => by go_simp) hHeld ?_
 simp only [Act.put, aS0, aS1, aS2]
 refine tkU 10 (.pointer (some ⟨t, 0, none⟩)) rfl (fun W hC => by go_simp) hHeld ?_
 simp only [Act.put, aS0, aS1, aS2]
 refine tkU 11 (.pointer (some ⟨t, 14, none⟩)) rfl (fun W hC => by go_simp) hHeld ?_
 simp only [Act.put, aS0, aS1, aS2]
 refine tkU 12 (.int .i64 y) rfl (fun W hC => by (obtain ⟨y0, y1, y2⟩ := hC); go_simp) hHeld ?_
 simp only [Act.put, aS0, aS1, aS2]
 refine wpAnyH_ready (rs := [13]) (by kernel_rfl) (by simp) ?_
 refine AllReadyH.consU rfl (fun K' hK' => ?_) AllReadyH.nil
 go_simp
 refine (HM1.out).mono ?_
 rintro e w3 ⟨rfl, hb3⟩
 have hb3' : Below w2.heap.size w2 w3 := ⟨hb3.os, hb3.tape, hb3.output, hb3.size, hb3.block⟩
 have HB3 := hid (HB2.out.trans (hb3'.mono HB2.out.size))
 refine hK'.out _ _ (HCS.out w3 HB3.out) (fun hHeld => ?_)
 clear hK' K'
 refine tkU 14 (.int .i64 pb) rfl (fun W hC => by go_simp) hHeld ?_
 simp only [Act.put, aS0, aS1, aS2]
 refine wpAnyH_done (by kernel_rfl) ?_ _
 clear hHeld
 have HB03 := hid (HB02.out.trans (hb3'.mono HB02.out.size))
 clear hb3 hb3' HM1 HB2 HB02
 obtain ⟨y0, _⟩ := HCS.out w3 HB3.out
 go_wp2_with fail
 refine (HP2.out w3 HB03.out).mono ?_
 rintro e w4 ⟨a2, c2, rfl, hC2, hb4⟩
 have HB4 := hid (HB3.out.trans (hb4.mono HB3.out.size))
 have HM2 : Hid (Calls Tryz.prog 97 #[.int .i64 q, .slice a2 4 c2, .int .i64 x, .int .i64 y] w4.drew fun e w' => e = .returned (.int .i64 pa) /\ Below w4.heap.size w4.drew w') := HK2.out w4.drew a2 c2 (hC2.below (Below.refl _ _).drew)
 clear hC2 hb4 HP2 HK2 y0 HB3
 go_wp2_with fail
 refine wp_region_held_drew (S := fun W => W.cell? ⟨t, 0, none⟩ = some (.int .i64 q) /\ W.cell? ⟨t, 13, none⟩ = some (.int .i64 x) /\ W.cell? ⟨t, 14, none⟩ = some (.int .i64 y)) (by kernel_rfl) (HCS.out w4.drew HB4.out.drew) (fun hHeld => ?_)
 refine tkU 0 (.pointer (some ⟨t, 0, none⟩)) rfl (fun W hC => by go_simp) hHeld ?_
 simp only [Act.put, aS0, aS1, aS2]
 refine tkU 1 (.pointer (some ⟨t, 0, none⟩)) rfl (fun W hC => by go_simp) hHeld ?_
 simp only [Act.put, aS0, aS1, aS2]
 refine tkU 2 (.pointer (some ⟨t, 0, none⟩)) rfl (fun W hC => by go_simp) hHeld ?_
 simp only [Act.put, aS0, aS1, aS2]
 refine tkU 3 (.int .i64 q) rfl (fun W hC => by (obtain ⟨y0, y1, y2⟩ := hC); go_simp) hHeld ?_
 simp only [Act.put, aS0, aS1, aS2]
 refine tkU 4 (.slice a2 4 c2) rfl (fun W hC => by go_simp) hHeld ?_
 simp only [Act.put, aS0, aS1, aS2]
 refine tkU 5 (.pointer (some ⟨t, 0, none⟩)) rfl (fun W hC => by go_simp) hHeld ?_
 simp only [Act.put, aS0, aS1, aS2]
 refine tkU 6 (.pointer (some ⟨t, 0, none⟩)) rfl (fun W hC => by go_simp) hHeld ?_
 simp only [Act.put, aS0, aS1, aS2]
 refine tkU 7 (.pointer (some ⟨t, 13, none⟩)) rfl (fun W hC => by go_simp) hHeld ?_
 simp only [Act.put, aS0, aS1, aS2]
 refine tkU 8 (.int .i64 x) rfl (fun W hC => by (obtain ⟨y0, y1, y2⟩ := hC); go_simp) hHeld ?_
 simp only [Act.put, aS0, aS1, aS2]
 refine tkU 9 (.pointer (some ⟨t, 0, none⟩)) rfl (fun W hC => by go_simp) hHeld ?_
 simp only [Act.put, aS0, aS1, aS2]
 refine tkU 10 (.pointer (some ⟨t, 0, none⟩)) rfl (fun W hC => by go_simp) hHeld ?_
 simp only [Act.put, aS0, aS1, aS2]
 refine tkU 11 (.pointer (some ⟨t, 14, none⟩)) rfl (fun W hC => by go_simp) hHeld ?_
 simp only [Act.put, aS0, aS1, aS2]
 refine tkU 12 (.int .i64 y) rfl (fun W hC => by (obtain ⟨y0, y1, y2⟩ := hC); go_simp) hHeld ?_
 simp only [Act.put, aS0, aS1, aS2]
 refine wpAnyH_ready (rs := [13]) (by kernel_rfl) (by simp) ?_
 refine AllReadyH.consU rfl (fun K' hK' => ?_) AllReadyH.nil
 go_simp
 refine (HM2.out).mono ?_
 rintro e w5 ⟨rfl, hb5⟩
 have hb5' : Below w4.heap.size w4 w5 := ⟨hb5.os, hb5.tape, hb5.output, hb5.size, hb5.block⟩
 have HB5 := hid (HB4.out.trans (hb5'.mono HB4.out.size))
 refine hK'.out _ _ (HCS.out w5 HB5.out) (fun hHeld => ?_)
 clear hK' K'
 refine tkU 14 (.int .i64 pa) rfl (fun W hC => by go_simp) hHeld ?_
 simp only [Act.put, aS0, aS1, aS2]
 refine wpAnyH_done (by kernel_rfl) ?_ _
 clear hHeld hb5 hb5' HM2 HB4
 obtain ⟨y0, _⟩ := HCS.out w5 HB5.out
 go_wp2_with fail
 refine (HMB.out w5).mono ?_
 rintro e w' ⟨rfl, hw'⟩
 have hw'' := hw'.symm
 subst hw''
 clear hw' HMB
 go_wp2_with fail
 refine (HMA.out w5).mono ?_
 rintro e w' ⟨rfl, hw'⟩
 have hw'' := hw'.symm
 subst hw''
 clear hw' HMA
 go_wp2_with fail
 refine (HSU.out w5).mono ?_
 rintro e w' ⟨rfl, hw'⟩
 have hw'' := hw'.symm
 subst hw''
 clear hw' HSU
 go_wp2_with fail
 go_ret
 exact ⟨rfl, HB5.out⟩
structure WW (p V : Nat) (L : List InsZ) (size out : Int) (r n : List Int) (aL : Option Addr) (cL : Nat) (ar : Option Addr) (cr : Nat) (an : Option Addr) (cn : Nat) (w : World) : Prop where
 blk : w.heap[V]? = some (.cells #[.int .i64 p, .int .i64 size, .slice aL L.length cL, .int .i64 out, .slice ar r.length cr, .slice an n.length cn] 106 (0, 0))
 ins : LstI w.heap.size w aL cL L
 row : RowB w.heap.size w ar r
 nxt : RowB w.heap.size w an n
theorem WW.below {p V : Nat} {L : List InsZ} {size out : Int} {r n : List Int} {aL : Option Addr} {cL : Nat} {ar : Option Addr} {cr : Nat} {an : Option Addr} {cn : Nat} {w w' : World} (h : WW p V L size out r n aL cL ar cr an cn w) (e : Below w.heap.size w w') : WW p V L size out r n aL cL ar cr an cn w' :=
 ⟨(e.block V (Array.getElem?_eq_some_iff.1 h.blk).1).trans h.blk, (h.ins.below e).mono e.size, RowB.mono e.size (RowB.below e h.row), RowB.mono e.size (RowB.below e h.nxt)⟩
theorem WW.cells {p V : Nat} {L : List InsZ} {size out : Int} {r n : List Int} {aL : Option Addr} {cL : Nat} {ar : Option Addr} {cr : Nat} {an : Option Addr} {cn : Nat} {w : World} (h : WW p V L size out r n aL cL ar cr an cn w) : w.cell? ⟨V, 0, none⟩ = some (.int .i64 p) /\ w.cell? ⟨V, 1, none⟩ = some (.int .i64 size) /\ w.cell? ⟨V, 2, none⟩ = some (.slice aL L.length cL) /\ w.cell? ⟨V, 3, none⟩ = some (.int .i64 out) /\ w.cell? ⟨V, 4, none⟩ = some (.slice ar r.length cr) /\ w.cell? ⟨V, 5, none⟩ = some (.slice an n.length cn) := by
 refine ⟨?_, ?_, ?_, ?_, ?_, ?_⟩ <;> simp [World.cell?, h.blk]
theorem wadd_any (p V : Nat) (a b : Int) (w : World) (h3 : 3 <= p) (h4 : p <= 2147483647) (hp : w.cell? ⟨V, 0, none⟩ = some (.int .i64 p)) (ha : I64 a) (hb : I64 b) :
  Calls Tryz.prog 100 #[.pointer (some ⟨V, 0, none⟩), .int .i64 a, .int .i64 b] w fun e w' => e = .returned (.int .i64 ((a + b) % (p : Int))) /\ w' = w := by
 have HC := hid (radd_any p a b w h3 h4 ha.1 ha.2 hb.1 hb.2)
 generalize (a + b) % (p : Int) = t at *
 clear ha hb h3 h4
 go_enter Tryz.func100, Tryz.ntmps100
 go_wp2_with fail
 refine HC.out.mono ?_
 rintro e w1 ⟨rfl, hw⟩
 have hw1 := hw.symm
 subst hw1
 go_wp2_with fail
 go_ret
 exact ⟨rfl, rfl⟩
theorem wsub_any (p V : Nat) (a b : Int) (w : World) (h3 : 3 <= p) (h4 : p <= 2147483647) (hp : w.cell? ⟨V, 0, none⟩ = some (.int .i64 p)) (ha : I64 a) (hb : I64 b) :
  Calls Tryz.prog 99 #[.pointer (some ⟨V, 0, none⟩), .int .i64 a, .int .i64 b] w fun e w' => e = .returned (.int .i64 ((a - b) % (p : Int))) /\ w' = w := by
 have HC := hid (rsub_any p a b w h3 h4 ha.1 ha.2 hb.1 hb.2)
 generalize (a - b) % (p : Int) = t at *
 clear ha hb h3 h4
 go_enter Tryz.func99, Tryz.ntmps99
 go_wp2_with fail
 refine HC.out.mono ?_
 rintro e w1 ⟨rfl, hw⟩
 have hw1 := hw.symm
 subst hw1
 go_wp2_with fail
 go_ret
 exact ⟨rfl, rfl⟩
theorem wmul_any (p V : Nat) (a b : Int) (w : World) (h3 : 3 <= p) (h4 : p <= 2147483647) (hp : w.cell? ⟨V, 0, none⟩ = some (.int .i64 p)) (ha : I64 a) (hb : I64 b) :
  Calls Tryz.prog 98 #[.pointer (some ⟨V, 0, none⟩), .int .i64 a, .int .i64 b] w fun e w' => e = .returned (.int .i64 ((a * b) % (p : Int))) /\ w' = w := by
 have HC := hid (rmul_any p a b w h3 h4 ha.1 ha.2 hb.1 hb.2)
 generalize (a * b) % (p : Int) = t at *
 clear ha hb h3 h4
 go_enter Tryz.func98, Tryz.ntmps98
 go_wp2_with fail
 refine HC.out.mono ?_
 rintro e w1 ⟨rfl, hw⟩
 have hw1 := hw.symm
 subst hw1
 go_wp2_with fail
 go_ret
 exact ⟨rfl, rfl⟩
theorem wcell0_0 (p V : Nat) (L : List InsZ) (size out : Int) (r n : List Int) (aL : Option Addr) (cL : Nat) (ar : Option Addr) (cr : Nat) (an : Option Addr) (cn : Nat) (w : World) (H : VF p L size out r n) (hV : WW p V L size out r n aL cL ar cr an cn w) (ia ib ic : Int) (hi : I64 ia /\ I64 ib /\ I64 ic) :
  Calls Tryz.prog 141 #[.pointer (some ⟨V, 0, none⟩), .agg #[.int .i64 0, .int .i64 ia, .int .i64 ib, .int .i64 ic], .int .i64 0] w fun e w' => e = .returned (.int .i64 (tvC p r 0 ⟨0, ia, ib, ic⟩)) /\ Below w.heap.size w w' := by
 have h3 := H.h3
 have h4 := H.h4
 have HEM := hemL H
 obtain ⟨hia, hib, hic⟩ := hi
 obtain ⟨W0, hW0⟩ := exE (w.alloc (.cells #[.int .i64 0, .int .i64 ia, .int .i64 ib, .int .i64 ic] 180))
 have hb0 := blA hW0
 replace hV := hV.below hb0
 have HB0 := hid hb0
 clear hb0
 obtain ⟨c0, c1, c2, c3, c4, c5⟩ := hV.cells
 have QP := qpL c0
 obtain ⟨br, orr, har, hrw⟩ := rowB_at hV.row H.hr
 subst har
 have r0 := hrw 0 (by omega)
 rw [Nat.add_zero] at r0
 have i0 := H.fr 0
 have l0 := llL H 0
 have l0' := llN H 0
 have r1 := hrw 1 (by omega)
 have i1 := H.fr 1
 have l1 := llL H 1
 have l1' := llN H 1
 clear hrw
 have HE : Hid (tvC p r 0 ⟨0, ia, ib, ic⟩ = (((zat r 0) + ia) % (p : Int))) := by
  unfold Hid
  rw [show tvC p r 0 ⟨0, ia, ib, ic⟩ = (zat r 0 + ia) % (p : Int) from rfl]
 obtain ⟨R, hR⟩ := exE (tvC p r 0 ⟨0, ia, ib, ic⟩)
 rw [<- hR] at HE ⊢
 clear hR
 have HC0 := hid (fun W h => wadd_any p V (zat r 0) ia W h3 h4 h i0 hia)
 clear i0 i1
 clear HEM H hV
 generalize (((zat r 0) + ia) % (p : Int)) = t1 at *
 generalize zat r 0 = x0 at *
 generalize zat r 1 = x1 at *
 generalize r.length = lr at *
 generalize L.length = nL at *
 subst hW0
 go_enter Tryz.func141, Tryz.ntmps141
 go_wp2_with fail
 refine (HC0.out _ c0).mono ?_
 rintro e w' ⟨rfl, hw'⟩
 have hw'' := hw'.symm
 subst hw''
 clear hw'
 go_wp2_with fail
 go_ret
 exact ⟨by have h := HE.out; subst h; rfl, HB0.out⟩
theorem wcell0_1 (p V : Nat) (L : List InsZ) (size out : Int) (r n : List Int) (aL : Option Addr) (cL : Nat) (ar : Option Addr) (cr : Nat) (an : Option Addr) (cn : Nat) (w : World) (H : VF p L size out r n) (hV : WW p V L size out r n aL cL ar cr an cn w) (ia ib ic : Int) (hi : I64 ia /\ I64 ib /\ I64 ic) :
  Calls Tryz.prog 141 #[.pointer (some ⟨V, 0, none⟩), .agg #[.int .i64 1, .int .i64 ia, .int .i64 ib, .int .i64 ic], .int .i64 0] w fun e w' => e = .returned (.int .i64 (tvC p r 0 ⟨1, ia, ib, ic⟩)) /\ Below w.heap.size w w' := by
 have h3 := H.h3
 have h4 := H.h4
 have HEM := hemL H
 obtain ⟨hia, hib, hic⟩ := hi
 obtain ⟨W0, hW0⟩ := exE (w.alloc (.cells #[.int .i64 1, .int .i64 ia, .int .i64 ib, .int .i64 ic] 180))
 have hb0 := blA hW0
 replace hV := hV.below hb0
 have HB0 := hid hb0
 clear hb0
 obtain ⟨c0, c1, c2, c3, c4, c5⟩ := hV.cells
 have QP := qpL c0
 obtain ⟨br, orr, har, hrw⟩ := rowB_at hV.row H.hr
 subst har
 have r0 := hrw 0 (by omega)
 rw [Nat.add_zero] at r0
 have i0 := H.fr 0
 have l0 := llL H 0
 have l0' := llN H 0
 have r1 := hrw 1 (by omega)
 have i1 := H.fr 1
 have l1 := llL H 1
 have l1' := llN H 1
 clear hrw
 have HE : Hid (tvC p r 0 ⟨1, ia, ib, ic⟩ = (((zat r 0) + ia) % (p : Int))) := by
  unfold Hid
  rw [show tvC p r 0 ⟨1, ia, ib, ic⟩ = (zat r 0 + ia) % (p : Int) from rfl]
 obtain ⟨R, hR⟩ := exE (tvC p r 0 ⟨1, ia, ib, ic⟩)
 rw [<- hR] at HE ⊢
 clear hR
 have HC0 := hid (fun W h => wadd_any p V (zat r 0) ia W h3 h4 h i0 hia)
 clear i0 i1
 clear HEM H hV
 generalize (((zat r 0) + ia) % (p : Int)) = t1 at *
 generalize zat r 0 = x0 at *
 generalize zat r 1 = x1 at *
 generalize r.length = lr at *
 generalize L.length = nL at *
 subst hW0
 go_enter Tryz.func141, Tryz.ntmps141
 go_wp2_with fail
 refine (HC0.out _ c0).mono ?_
 rintro e w' ⟨rfl, hw'⟩
 have hw'' := hw'.symm
 subst hw''
 clear hw'
 go_wp2_with fail
 go_ret
 exact ⟨by have h := HE.out; subst h; rfl, HB0.out⟩
theorem wcell0_2 (p V : Nat) (L : List InsZ) (size out : Int) (r n : List Int) (aL : Option Addr) (cL : Nat) (ar : Option Addr) (cr : Nat) (an : Option Addr) (cn : Nat) (w : World) (H : VF p L size out r n) (hV : WW p V L size out r n aL cL ar cr an cn w) (ia ib ic : Int) (hi : I64 ia /\ I64 ib /\ I64 ic) :
  Calls Tryz.prog 141 #[.pointer (some ⟨V, 0, none⟩), .agg #[.int .i64 2, .int .i64 ia, .int .i64 ib, .int .i64 ic], .int .i64 0] w fun e w' => e = .returned (.int .i64 (tvC p r 0 ⟨2, ia, ib, ic⟩)) /\ Below w.heap.size w w' := by
 have h3 := H.h3
 have h4 := H.h4
 have HEM := hemL H
 obtain ⟨hia, hib, hic⟩ := hi
 obtain ⟨W0, hW0⟩ := exE (w.alloc (.cells #[.int .i64 2, .int .i64 ia, .int .i64 ib, .int .i64 ic] 180))
 have hb0 := blA hW0
 replace hV := hV.below hb0
 have HB0 := hid hb0
 clear hb0
 obtain ⟨c0, c1, c2, c3, c4, c5⟩ := hV.cells
 have QP := qpL c0
 obtain ⟨br, orr, har, hrw⟩ := rowB_at hV.row H.hr
 subst har
 have r0 := hrw 0 (by omega)
 rw [Nat.add_zero] at r0
 have i0 := H.fr 0
 have l0 := llL H 0
 have l0' := llN H 0
 have r1 := hrw 1 (by omega)
 have i1 := H.fr 1
 have l1 := llL H 1
 have l1' := llN H 1
 clear hrw
 have HE : Hid (tvC p r 0 ⟨2, ia, ib, ic⟩ = (((zat r 0) + ia) % (p : Int))) := by
  unfold Hid
  rw [show tvC p r 0 ⟨2, ia, ib, ic⟩ = (zat r 0 + ia) % (p : Int) from rfl]
 obtain ⟨R, hR⟩ := exE (tvC p r 0 ⟨2, ia, ib, ic⟩)
 rw [<- hR] at HE ⊢
 clear hR
 have HC0 := hid (fun W h => wadd_any p V (zat r 0) ia W h3 h4 h i0 hia)
 clear i0 i1
 clear HEM H hV
 generalize (((zat r 0) + ia) % (p : Int)) = t1 at *
 generalize zat r 0 = x0 at *
 generalize zat r 1 = x1 at *
 generalize r.length = lr at *
 generalize L.length = nL at *
 subst hW0
 go_enter Tryz.func141, Tryz.ntmps141
 go_wp2_with fail
 refine (HC0.out _ c0).mono ?_
 rintro e w' ⟨rfl, hw'⟩
 have hw'' := hw'.symm
 subst hw''
 clear hw'
 go_wp2_with fail
 go_ret
 exact ⟨by have h := HE.out; subst h; rfl, HB0.out⟩
theorem wcell0_3 (p V : Nat) (L : List InsZ) (size out : Int) (r n : List Int) (aL : Option Addr) (cL : Nat) (ar : Option Addr) (cr : Nat) (an : Option Addr) (cn : Nat) (w : World) (H : VF p L size out r n) (hV : WW p V L size out r n aL cL ar cr an cn w) (ia ib ic : Int) (hi : I64 ia /\ I64 ib /\ I64 ic) :
  Calls Tryz.prog 141 #[.pointer (some ⟨V, 0, none⟩), .agg #[.int .i64 3, .int .i64 ia, .int .i64 ib, .int .i64 ic], .int .i64 0] w fun e w' => e = .returned (.int .i64 (tvC p r 0 ⟨3, ia, ib, ic⟩)) /\ Below w.heap.size w w' := by
 have h3 := H.h3
 have h4 := H.h4
 have HEM := hemL H
 obtain ⟨hia, hib, hic⟩ := hi
 obtain ⟨W0, hW0⟩ := exE (w.alloc (.cells #[.int .i64 3, .int .i64 ia, .int .i64 ib, .int .i64 ic] 180))
 have hb0 := blA hW0
 replace hV := hV.below hb0
 have HB0 := hid hb0
 clear hb0
 obtain ⟨c0, c1, c2, c3, c4, c5⟩ := hV.cells
 have QP := qpL c0
 obtain ⟨br, orr, har, hrw⟩ := rowB_at hV.row H.hr
 subst har
 have r0 := hrw 0 (by omega)
 rw [Nat.add_zero] at r0
 have i0 := H.fr 0
 have l0 := llL H 0
 have l0' := llN H 0
 have r1 := hrw 1 (by omega)
 have i1 := H.fr 1
 have l1 := llL H 1
 have l1' := llN H 1
 clear hrw
 have HE : Hid (tvC p r 0 ⟨3, ia, ib, ic⟩ = (((zat r 0) + ia) % (p : Int))) := by
  unfold Hid
  rw [show tvC p r 0 ⟨3, ia, ib, ic⟩ = (zat r 0 + ia) % (p : Int) from rfl]
 obtain ⟨R, hR⟩ := exE (tvC p r 0 ⟨3, ia, ib, ic⟩)
 rw [<- hR] at HE ⊢
 clear hR
 have HC0 := hid (fun W h => wadd_any p V (zat r 0) ia W h3 h4 h i0 hia)
 clear i0 i1
 clear HEM H hV
 generalize (((zat r 0) + ia) % (p : Int)) = t1 at *
 generalize zat r 0 = x0 at *
 generalize zat r 1 = x1 at *
 generalize r.length = lr at *
 generalize L.length = nL at *
 subst hW0
 go_enter Tryz.func141, Tryz.ntmps141
 go_wp2_with fail
 refine (HC0.out _ c0).mono ?_
 rintro e w' ⟨rfl, hw'⟩
 have hw'' := hw'.symm
 subst hw''
 clear hw'
 go_wp2_with fail
 go_ret
 exact ⟨by have h := HE.out; subst h; rfl, HB0.out⟩
theorem wcell0_4 (p V : Nat) (L : List InsZ) (size out : Int) (r n : List Int) (aL : Option Addr) (cL : Nat) (ar : Option Addr) (cr : Nat) (an : Option Addr) (cn : Nat) (w : World) (H : VF p L size out r n) (hV : WW p V L size out r n aL cL ar cr an cn w) (ia ib ic : Int) (hi : I64 ia /\ I64 ib /\ I64 ic) :
  Calls Tryz.prog 141 #[.pointer (some ⟨V, 0, none⟩), .agg #[.int .i64 4, .int .i64 ia, .int .i64 ib, .int .i64 ic], .int .i64 0] w fun e w' => e = .returned (.int .i64 (tvC p r 0 ⟨4, ia, ib, ic⟩)) /\ Below w.heap.size w w' := by
 have h3 := H.h3
 have h4 := H.h4
 have HEM := hemL H
 obtain ⟨hia, hib, hic⟩ := hi
 obtain ⟨W0, hW0⟩ := exE (w.alloc (.cells #[.int .i64 4, .int .i64 ia, .int .i64 ib, .int .i64 ic] 180))
 have hb0 := blA hW0
 replace hV := hV.below hb0
 have HB0 := hid hb0
 clear hb0
 obtain ⟨c0, c1, c2, c3, c4, c5⟩ := hV.cells
 have QP := qpL c0
 obtain ⟨br, orr, har, hrw⟩ := rowB_at hV.row H.hr
 subst har
 have r0 := hrw 0 (by omega)
 rw [Nat.add_zero] at r0
 have i0 := H.fr 0
 have l0 := llL H 0
 have l0' := llN H 0
 have r1 := hrw 1 (by omega)
 have i1 := H.fr 1
 have l1 := llL H 1
 have l1' := llN H 1
 clear hrw
 have HE : Hid (tvC p r 0 ⟨4, ia, ib, ic⟩ = (((zat r 0) + ia) % (p : Int))) := by
  unfold Hid
  rw [show tvC p r 0 ⟨4, ia, ib, ic⟩ = (zat r 0 + ia) % (p : Int) from rfl]
 obtain ⟨R, hR⟩ := exE (tvC p r 0 ⟨4, ia, ib, ic⟩)
 rw [<- hR] at HE ⊢
 clear hR
 have HC0 := hid (fun W h => wadd_any p V (zat r 0) ia W h3 h4 h i0 hia)
 clear i0 i1
 clear HEM H hV
 generalize (((zat r 0) + ia) % (p : Int)) = t1 at *
 generalize zat r 0 = x0 at *
 generalize zat r 1 = x1 at *
 generalize r.length = lr at *
 generalize L.length = nL at *
 subst hW0
 go_enter Tryz.func141, Tryz.ntmps141
 go_wp2_with fail
 refine (HC0.out _ c0).mono ?_
 rintro e w' ⟨rfl, hw'⟩
 have hw'' := hw'.symm
 subst hw''
 clear hw'
 go_wp2_with fail
 go_ret
 exact ⟨by have h := HE.out; subst h; rfl, HB0.out⟩
theorem wcell0_5 (p V : Nat) (L : List InsZ) (size out : Int) (r n : List Int) (aL : Option Addr) (cL : Nat) (ar : Option Addr) (cr : Nat) (an : Option Addr) (cn : Nat) (w : World) (H : VF p L size out r n) (hV : WW p V L size out r n aL cL ar cr an cn w) (ia ib ic : Int) (hi : I64 ia /\ I64 ib /\ I64 ic) :
  Calls Tryz.prog 141 #[.pointer (some ⟨V, 0, none⟩), .agg #[.int .i64 5, .int .i64 ia, .int .i64 ib, .int .i64 ic], .int .i64 0] w fun e w' => e = .returned (.int .i64 (tvC p r 0 ⟨5, ia, ib, ic⟩)) /\ Below w.heap.size w w' := by
 have h3 := H.h3
 have h4 := H.h4
 have HEM := hemL H
 obtain ⟨hia, hib, hic⟩ := hi
 obtain ⟨W0, hW0⟩ := exE (w.alloc (.cells #[.int .i64 5, .int .i64 ia, .int .i64 ib, .int .i64 ic] 180))
 have hb0 := blA hW0
 replace hV := hV.below hb0
 have HB0 := hid hb0
 clear hb0
 obtain ⟨c0, c1, c2, c3, c4, c5⟩ := hV.cells
 have QP := qpL c0
 obtain ⟨br, orr, har, hrw⟩ := rowB_at hV.row H.hr
 subst har
 have r0 := hrw 0 (by omega)
 rw [Nat.add_zero] at r0
 have i0 := H.fr 0
 have l0 := llL H 0
 have l0' := llN H 0
 have r1 := hrw 1 (by omega)
 have i1 := H.fr 1
 have l1 := llL H 1
 have l1' := llN H 1
 clear hrw
 have HE : Hid (tvC p r 0 ⟨5, ia, ib, ic⟩ = (((zat r 0) + ia) % (p : Int))) := by
  unfold Hid
  rw [show tvC p r 0 ⟨5, ia, ib, ic⟩ = (zat r 0 + ia) % (p : Int) from rfl]
 obtain ⟨R, hR⟩ := exE (tvC p r 0 ⟨5, ia, ib, ic⟩)
 rw [<- hR] at HE ⊢
 clear hR
 have HC0 := hid (fun W h => wadd_any p V (zat r 0) ia W h3 h4 h i0 hia)
 clear i0 i1
 clear HEM H hV
 generalize (((zat r 0) + ia) % (p : Int)) = t1 at *
 generalize zat r 0 = x0 at *
 generalize zat r 1 = x1 at *
 generalize r.length = lr at *
 generalize L.length = nL at *
 subst hW0
 go_enter Tryz.func141, Tryz.ntmps141
 go_wp2_with fail
 refine (HC0.out _ c0).mono ?_
 rintro e w' ⟨rfl, hw'⟩
 have hw'' := hw'.symm
 subst hw''
 clear hw'
 go_wp2_with fail
 go_ret
 exact ⟨by have h := HE.out; subst h; rfl, HB0.out⟩
theorem wcell0_6 (p V : Nat) (L : List InsZ) (size out : Int) (r n : List Int) (aL : Option Addr) (cL : Nat) (ar : Option Addr) (cr : Nat) (an : Option Addr) (cn : Nat) (w : World) (H : VF p L size out r n) (hV : WW p V L size out r n aL cL ar cr an cn w) (ia ib ic : Int) (hi : I64 ia /\ I64 ib /\ I64 ic) :
  Calls Tryz.prog 141 #[.pointer (some ⟨V, 0, none⟩), .agg #[.int .i64 6, .int .i64 ia, .int .i64 ib, .int .i64 ic], .int .i64 0] w fun e w' => e = .returned (.int .i64 (tvC p r 0 ⟨6, ia, ib, ic⟩)) /\ Below w.heap.size w w' := by
 have h3 := H.h3
 have h4 := H.h4
 have HEM := hemL H
 obtain ⟨hia, hib, hic⟩ := hi
 obtain ⟨W0, hW0⟩ := exE (w.alloc (.cells #[.int .i64 6, .int .i64 ia, .int .i64 ib, .int .i64 ic] 180))
 have hb0 := blA hW0
 replace hV := hV.below hb0
 have HB0 := hid hb0
 clear hb0
 obtain ⟨c0, c1, c2, c3, c4, c5⟩ := hV.cells
 have QP := qpL c0
 obtain ⟨br, orr, har, hrw⟩ := rowB_at hV.row H.hr
 subst har
 have r0 := hrw 0 (by omega)
 rw [Nat.add_zero] at r0
 have i0 := H.fr 0
 have l0 := llL H 0
 have l0' := llN H 0
 have r1 := hrw 1 (by omega)
 have i1 := H.fr 1
 have l1 := llL H 1
 have l1' := llN H 1
 clear hrw
 have HE : Hid (tvC p r 0 ⟨6, ia, ib, ic⟩ = (((zat r 0) + ia) % (p : Int))) := by
  unfold Hid
  rw [show tvC p r 0 ⟨6, ia, ib, ic⟩ = (zat r 0 + ia) % (p : Int) from rfl]
 obtain ⟨R, hR⟩ := exE (tvC p r 0 ⟨6, ia, ib, ic⟩)
 rw [<- hR] at HE ⊢
 clear hR
 have HC0 := hid (fun W h => wadd_any p V (zat r 0) ia W h3 h4 h i0 hia)
 clear i0 i1
 clear HEM H hV
 generalize (((zat r 0) + ia) % (p : Int)) = t1 at *
 generalize zat r 0 = x0 at *
 generalize zat r 1 = x1 at *
 generalize r.length = lr at *
 generalize L.length = nL at *
 subst hW0
 go_enter Tryz.func141, Tryz.ntmps141
 go_wp2_with fail
 refine (HC0.out _ c0).mono ?_
 rintro e w' ⟨rfl, hw'⟩
 have hw'' := hw'.symm
 subst hw''
 clear hw'
 go_wp2_with fail
 go_ret
 exact ⟨by have h := HE.out; subst h; rfl, HB0.out⟩
theorem wcell0_7 (p V : Nat) (L : List InsZ) (size out : Int) (r n : List Int) (aL : Option Addr) (cL : Nat) (ar : Option Addr) (cr : Nat) (an : Option Addr) (cn : Nat) (w : World) (H : VF p L size out r n) (hV : WW p V L size out r n aL cL ar cr an cn w) (ia ib ic : Int) (hi : I64 ia /\ I64 ib /\ I64 ic) :
  Calls Tryz.prog 141 #[.pointer (some ⟨V, 0, none⟩), .agg #[.int .i64 7, .int .i64 ia, .int .i64 ib, .int .i64 ic], .int .i64 0] w fun e w' => e = .returned (.int .i64 (tvC p r 0 ⟨7, ia, ib, ic⟩)) /\ Below w.heap.size w w' := by
 have h3 := H.h3
 have h4 := H.h4
 have HEM := hemL H
 obtain ⟨hia, hib, hic⟩ := hi
 obtain ⟨W0, hW0⟩ := exE (w.alloc (.cells #[.int .i64 7, .int .i64 ia, .int .i64 ib, .int .i64 ic] 180))
 have hb0 := blA hW0
 replace hV := hV.below hb0
 have HB0 := hid hb0
 clear hb0
 obtain ⟨c0, c1, c2, c3, c4, c5⟩ := hV.cells
 have QP := qpL c0
 obtain ⟨br, orr, har, hrw⟩ := rowB_at hV.row H.hr
 subst har
 have r0 := hrw 0 (by omega)
 rw [Nat.add_zero] at r0
 have i0 := H.fr 0
 have l0 := llL H 0
 have l0' := llN H 0
 have r1 := hrw 1 (by omega)
 have i1 := H.fr 1
 have l1 := llL H 1
 have l1' := llN H 1
 clear hrw
 have HE : Hid (tvC p r 0 ⟨7, ia, ib, ic⟩ = (((zat r 0) + ia) % (p : Int))) := by
  unfold Hid
  rw [show tvC p r 0 ⟨7, ia, ib, ic⟩ = (zat r 0 + ia) % (p : Int) from rfl]
 obtain ⟨R, hR⟩ := exE (tvC p r 0 ⟨7, ia, ib, ic⟩)
 rw [<- hR] at HE ⊢
 clear hR
 have HC0 := hid (fun W h => wadd_any p V (zat r 0) ia W h3 h4 h i0 hia)
 clear i0 i1
 clear HEM H hV
 generalize (((zat r 0) + ia) % (p : Int)) = t1 at *
 generalize zat r 0 = x0 at *
 generalize zat r 1 = x1 at *
 generalize r.length = lr at *
 generalize L.length = nL at *
 subst hW0
 go_enter Tryz.func141, Tryz.ntmps141
 go_wp2_with fail
 refine (HC0.out _ c0).mono ?_
 rintro e w' ⟨rfl, hw'⟩
 have hw'' := hw'.symm
 subst hw''
 clear hw'
 go_wp2_with fail
 go_ret
 exact ⟨by have h := HE.out; subst h; rfl, HB0.out⟩
theorem wcell0_8 (p V : Nat) (L : List InsZ) (size out : Int) (r n : List Int) (aL : Option Addr) (cL : Nat) (ar : Option Addr) (cr : Nat) (an : Option Addr) (cn : Nat) (w : World) (H : VF p L size out r n) (hV : WW p V L size out r n aL cL ar cr an cn w) (ia ib ic : Int) (hi : I64 ia /\ I64 ib /\ I64 ic) :
  Calls Tryz.prog 141 #[.pointer (some ⟨V, 0, none⟩), .agg #[.int .i64 8, .int .i64 ia, .int .i64 ib, .int .i64 ic], .int .i64 0] w fun e w' => e = .returned (.int .i64 (tvC p r 0 ⟨8, ia, ib, ic⟩)) /\ Below w.heap.size w w' := by
 have h3 := H.h3
 have h4 := H.h4
 have HEM := hemL H
 obtain ⟨hia, hib, hic⟩ := hi
 obtain ⟨W0, hW0⟩ := exE (w.alloc (.cells #[.int .i64 8, .int .i64 ia, .int .i64 ib, .int .i64 ic] 180))
 have hb0 := blA hW0
 replace hV := hV.below hb0
 have HB0 := hid hb0
 clear hb0
 obtain ⟨c0, c1, c2, c3, c4, c5⟩ := hV.cells
 have QP := qpL c0
 obtain ⟨br, orr, har, hrw⟩ := rowB_at hV.row H.hr
 subst har
 have r0 := hrw 0 (by omega)
 rw [Nat.add_zero] at r0
 have i0 := H.fr 0
 have l0 := llL H 0
 have l0' := llN H 0
 have r1 := hrw 1 (by omega)
 have i1 := H.fr 1
 have l1 := llL H 1
 have l1' := llN H 1
 clear hrw
 have HE : Hid (tvC p r 0 ⟨8, ia, ib, ic⟩ = 0) := rfl
 obtain ⟨R, hR⟩ := exE (tvC p r 0 ⟨8, ia, ib, ic⟩)
 rw [<- hR] at HE ⊢
 clear hR
 clear i0 i1
 clear HEM H hV
 generalize zat r 0 = x0 at *
 generalize zat r 1 = x1 at *
 generalize r.length = lr at *
 generalize L.length = nL at *
 subst hW0
 go_enter Tryz.func141, Tryz.ntmps141
 go_wp2_with fail
 go_ret
 exact ⟨by have h := HE.out; subst h; rfl, HB0.out⟩
theorem wcell0_9 (p V : Nat) (L : List InsZ) (size out : Int) (r n : List Int) (aL : Option Addr) (cL : Nat) (ar : Option Addr) (cr : Nat) (an : Option Addr) (cn : Nat) (w : World) (H : VF p L size out r n) (hV : WW p V L size out r n aL cL ar cr an cn w) (ia ib ic : Int) (hi : I64 ia /\ I64 ib /\ I64 ic) :
  Calls Tryz.prog 141 #[.pointer (some ⟨V, 0, none⟩), .agg #[.int .i64 9, .int .i64 ia, .int .i64 ib, .int .i64 ic], .int .i64 0] w fun e w' => e = .returned (.int .i64 (tvC p r 0 ⟨9, ia, ib, ic⟩)) /\ Below w.heap.size w w' := by
 have h3 := H.h3
 have h4 := H.h4
 have HEM := hemL H
 obtain ⟨hia, hib, hic⟩ := hi
 obtain ⟨W0, hW0⟩ := exE (w.alloc (.cells #[.int .i64 9, .int .i64 ia, .int .i64 ib, .int .i64 ic] 180))
 have hb0 := blA hW0
 replace hV := hV.below hb0
 have HB0 := hid hb0
 clear hb0
 obtain ⟨c0, c1, c2, c3, c4, c5⟩ := hV.cells
 have QP := qpL c0
 obtain ⟨br, orr, har, hrw⟩ := rowB_at hV.row H.hr
 subst har
 have r0 := hrw 0 (by omega)
 rw [Nat.add_zero] at r0
 have i0 := H.fr 0
 have l0 := llL H 0
 have l0' := llN H 0
 have r1 := hrw 1 (by omega)
 have i1 := H.fr 1
 have l1 := llL H 1
 have l1' := llN H 1
 clear hrw
 have HE : Hid (tvC p r 0 ⟨9, ia, ib, ic⟩ = (((zat r 0) + ia) % (p : Int))) := by
  unfold Hid
  rw [show tvC p r 0 ⟨9, ia, ib, ic⟩ = (zat r 0 + ia) % (p : Int) from rfl]
 obtain ⟨R, hR⟩ := exE (tvC p r 0 ⟨9, ia, ib, ic⟩)
 rw [<- hR] at HE ⊢
 clear hR
 have HC0 := hid (fun W h => wadd_any p V (zat r 0) ia W h3 h4 h i0 hia)
 clear i0 i1
 clear HEM H hV
 generalize (((zat r 0) + ia) % (p : Int)) = t1 at *
 generalize zat r 0 = x0 at *
 generalize zat r 1 = x1 at *
 generalize r.length = lr at *
 generalize L.length = nL at *
 subst hW0
 go_enter Tryz.func141, Tryz.ntmps141
 go_wp2_with fail
 refine (HC0.out _ c0).mono ?_
 rintro e w' ⟨rfl, hw'⟩
 have hw'' := hw'.symm
 subst hw''
 clear hw'
 go_wp2_with fail
 go_ret
 exact ⟨by have h := HE.out; subst h; rfl, HB0.out⟩
theorem wcell0_10 (p V : Nat) (L : List InsZ) (size out : Int) (r n : List Int) (aL : Option Addr) (cL : Nat) (ar : Option Addr) (cr : Nat) (an : Option Addr) (cn : Nat) (w : World) (H : VF p L size out r n) (hV : WW p V L size out r n aL cL ar cr an cn w) (ia ib ic : Int) (hi : I64 ia /\ I64 ib /\ I64 ic) :
  Calls Tryz.prog 141 #[.pointer (some ⟨V, 0, none⟩), .agg #[.int .i64 10, .int .i64 ia, .int .i64 ib, .int .i64 ic], .int .i64 0] w fun e w' => e = .returned (.int .i64 (tvC p r 0 ⟨10, ia, ib, ic⟩)) /\ Below w.heap.size w w' := by
 have h3 := H.h3
 have h4 := H.h4
 have HEM := hemL H
 obtain ⟨hia, hib, hic⟩ := hi
 obtain ⟨W0, hW0⟩ := exE (w.alloc (.cells #[.int .i64 10, .int .i64 ia, .int .i64 ib, .int .i64 ic] 180))
 have hb0 := blA hW0
 replace hV := hV.below hb0
 have HB0 := hid hb0
 clear hb0
 obtain ⟨c0, c1, c2, c3, c4, c5⟩ := hV.cells
 have QP := qpL c0
 obtain ⟨br, orr, har, hrw⟩ := rowB_at hV.row H.hr
 subst har
 have r0 := hrw 0 (by omega)
 rw [Nat.add_zero] at r0
 have i0 := H.fr 0
 have l0 := llL H 0
 have l0' := llN H 0
 have r1 := hrw 1 (by omega)
 have i1 := H.fr 1
 have l1 := llL H 1
 have l1' := llN H 1
 clear hrw
 have HE : Hid (tvC p r 0 ⟨10, ia, ib, ic⟩ = (((zat r 1) + (0 : Int)) % (p : Int))) := by
  unfold Hid
  rw [show tvC p r 0 ⟨10, ia, ib, ic⟩ = zat r 1 % (p : Int) from rfl]
  rw [Int.add_zero]
 obtain ⟨R, hR⟩ := exE (tvC p r 0 ⟨10, ia, ib, ic⟩)
 rw [<- hR] at HE ⊢
 clear hR
 have HC0 := hid (fun W h => wadd_any p V (zat r 1) (0 : Int) W h3 h4 h i1 (show I64 (0 : Int) by unfold I64; decide))
 clear i0 i1
 clear HEM H hV
 generalize (((zat r 1) + (0 : Int)) % (p : Int)) = t1 at *
 generalize zat r 0 = x0 at *
 generalize zat r 1 = x1 at *
 generalize r.length = lr at *
 generalize L.length = nL at *
 subst hW0
 go_enter Tryz.func141, Tryz.ntmps141
 go_wp2_with fail
 refine (HC0.out _ c0).mono ?_
 rintro e w' ⟨rfl, hw'⟩
 have hw'' := hw'.symm
 subst hw''
 clear hw'
 go_wp2_with fail
 go_ret
 exact ⟨by have h := HE.out; subst h; rfl, HB0.out⟩
theorem wcell0_11 (p V : Nat) (L : List InsZ) (size out : Int) (r n : List Int) (aL : Option Addr) (cL : Nat) (ar : Option Addr) (cr : Nat) (an : Option Addr) (cn : Nat) (w : World) (H : VF p L size out r n) (hV : WW p V L size out r n aL cL ar cr an cn w) (ia ib ic : Int) (hi : I64 ia /\ I64 ib /\ I64 ic) :
  Calls Tryz.prog 141 #[.pointer (some ⟨V, 0, none⟩), .agg #[.int .i64 11, .int .i64 ia, .int .i64 ib, .int .i64 ic], .int .i64 0] w fun e w' => e = .returned (.int .i64 (tvC p r 0 ⟨11, ia, ib, ic⟩)) /\ Below w.heap.size w w' := by
 have h3 := H.h3
 have h4 := H.h4
 have HEM := hemL H
 obtain ⟨hia, hib, hic⟩ := hi
 obtain ⟨W0, hW0⟩ := exE (w.alloc (.cells #[.int .i64 11, .int .i64 ia, .int .i64 ib, .int .i64 ic] 180))
 have hb0 := blA hW0
 replace hV := hV.below hb0
 have HB0 := hid hb0
 clear hb0
 obtain ⟨c0, c1, c2, c3, c4, c5⟩ := hV.cells
 have QP := qpL c0
 obtain ⟨br, orr, har, hrw⟩ := rowB_at hV.row H.hr
 subst har
 have r0 := hrw 0 (by omega)
 rw [Nat.add_zero] at r0
 have i0 := H.fr 0
 have l0 := llL H 0
 have l0' := llN H 0
 have r1 := hrw 1 (by omega)
 have i1 := H.fr 1
 have l1 := llL H 1
 have l1' := llN H 1
 clear hrw
 have HE : Hid (tvC p r 0 ⟨11, ia, ib, ic⟩ = (((zat r 0) + (-2 : Int)) % (p : Int))) := by
  unfold Hid
  rw [show tvC p r 0 ⟨11, ia, ib, ic⟩ = (zat r 0 - 2) % (p : Int) from rfl]
  rfl
 obtain ⟨R, hR⟩ := exE (tvC p r 0 ⟨11, ia, ib, ic⟩)
 rw [<- hR] at HE ⊢
 clear hR
 have HC0 := hid (fun W h => wadd_any p V (zat r 0) (-2 : Int) W h3 h4 h i0 (show I64 (-2 : Int) by unfold I64; decide))
 clear i0 i1
 clear HEM H hV
 generalize (((zat r 0) + (-2 : Int)) % (p : Int)) = t1 at *
 generalize zat r 0 = x0 at *
 generalize zat r 1 = x1 at *
 generalize r.length = lr at *
 generalize L.length = nL at *
 subst hW0
 go_enter Tryz.func141, Tryz.ntmps141
 go_wp2_with fail
 refine (HC0.out _ c0).mono ?_
 rintro e w' ⟨rfl, hw'⟩
 have hw'' := hw'.symm
 subst hw''
 clear hw'
 go_wp2_with fail
 go_ret
 exact ⟨by have h := HE.out; subst h; rfl, HB0.out⟩
theorem wcell0_12 (p V : Nat) (L : List InsZ) (size out : Int) (r n : List Int) (aL : Option Addr) (cL : Nat) (ar : Option Addr) (cr : Nat) (an : Option Addr) (cn : Nat) (w : World) (H : VF p L size out r n) (hV : WW p V L size out r n aL cL ar cr an cn w) (ia ib ic : Int) (hi : I64 ia /\ I64 ib /\ I64 ic) :
  Calls Tryz.prog 141 #[.pointer (some ⟨V, 0, none⟩), .agg #[.int .i64 12, .int .i64 ia, .int .i64 ib, .int .i64 ic], .int .i64 0] w fun e w' => e = .returned (.int .i64 (tvC p r 0 ⟨12, ia, ib, ic⟩)) /\ Below w.heap.size w w' := by
 have h3 := H.h3
 have h4 := H.h4
 have HEM := hemL H
 obtain ⟨hia, hib, hic⟩ := hi
 obtain ⟨W0, hW0⟩ := exE (w.alloc (.cells #[.int .i64 12, .int .i64 ia, .int .i64 ib, .int .i64 ic] 180))
 have hb0 := blA hW0
 replace hV := hV.below hb0
 have HB0 := hid hb0
 clear hb0
 obtain ⟨c0, c1, c2, c3, c4, c5⟩ := hV.cells
 have QP := qpL c0
 obtain ⟨br, orr, har, hrw⟩ := rowB_at hV.row H.hr
 subst har
 have r0 := hrw 0 (by omega)
 rw [Nat.add_zero] at r0
 have i0 := H.fr 0
 have l0 := llL H 0
 have l0' := llN H 0
 have r1 := hrw 1 (by omega)
 have i1 := H.fr 1
 have l1 := llL H 1
 have l1' := llN H 1
 clear hrw
 have HE : Hid (tvC p r 0 ⟨12, ia, ib, ic⟩ = (((zat r 0) + ia) % (p : Int))) := by
  unfold Hid
  rw [show tvC p r 0 ⟨12, ia, ib, ic⟩ = (zat r 0 + ia) % (p : Int) from rfl]
 obtain ⟨R, hR⟩ := exE (tvC p r 0 ⟨12, ia, ib, ic⟩)
 rw [<- hR] at HE ⊢
 clear hR
 have HC0 := hid (fun W h => wadd_any p V (zat r 0) ia W h3 h4 h i0 hia)
 clear i0 i1
 clear HEM H hV
 generalize (((zat r 0) + ia) % (p : Int)) = t1 at *
 generalize zat r 0 = x0 at *
 generalize zat r 1 = x1 at *
 generalize r.length = lr at *
 generalize L.length = nL at *
 subst hW0
 go_enter Tryz.func141, Tryz.ntmps141
 go_wp2_with fail
 refine (HC0.out _ c0).mono ?_
 rintro e w' ⟨rfl, hw'⟩
 have hw'' := hw'.symm
 subst hw''
 clear hw'
 go_wp2_with fail
 go_ret
 exact ⟨by have h := HE.out; subst h; rfl, HB0.out⟩
theorem wcell0_13 (p V : Nat) (L : List InsZ) (size out : Int) (r n : List Int) (aL : Option Addr) (cL : Nat) (ar : Option Addr) (cr : Nat) (an : Option Addr) (cn : Nat) (w : World) (H : VF p L size out r n) (hV : WW p V L size out r n aL cL ar cr an cn w) (ia ib ic : Int) (hi : I64 ia /\ I64 ib /\ I64 ic) :
  Calls Tryz.prog 141 #[.pointer (some ⟨V, 0, none⟩), .agg #[.int .i64 13, .int .i64 ia, .int .i64 ib, .int .i64 ic], .int .i64 0] w fun e w' => e = .returned (.int .i64 (tvC p r 0 ⟨13, ia, ib, ic⟩)) /\ Below w.heap.size w w' := by
 have h3 := H.h3
 have h4 := H.h4
 have HEM := hemL H
 obtain ⟨hia, hib, hic⟩ := hi
 obtain ⟨W0, hW0⟩ := exE (w.alloc (.cells #[.int .i64 13, .int .i64 ia, .int .i64 ib, .int .i64 ic] 180))
 have hb0 := blA hW0
 replace hV := hV.below hb0
 have HB0 := hid hb0
 clear hb0
 obtain ⟨c0, c1, c2, c3, c4, c5⟩ := hV.cells
 have QP := qpL c0
 obtain ⟨br, orr, har, hrw⟩ := rowB_at hV.row H.hr
 subst har
 have r0 := hrw 0 (by omega)
 rw [Nat.add_zero] at r0
 have i0 := H.fr 0
 have l0 := llL H 0
 have l0' := llN H 0
 have r1 := hrw 1 (by omega)
 have i1 := H.fr 1
 have l1 := llL H 1
 have l1' := llN H 1
 clear hrw
 have HE : Hid (tvC p r 0 ⟨13, ia, ib, ic⟩ = (((zat r 0) + ia) % (p : Int))) := by
  unfold Hid
  rw [show tvC p r 0 ⟨13, ia, ib, ic⟩ = (zat r 0 + ia) % (p : Int) from rfl]
 obtain ⟨R, hR⟩ := exE (tvC p r 0 ⟨13, ia, ib, ic⟩)
 rw [<- hR] at HE ⊢
 clear hR
 have HC0 := hid (fun W h => wadd_any p V (zat r 0) ia W h3 h4 h i0 hia)
 clear i0 i1
 clear HEM H hV
 generalize (((zat r 0) + ia) % (p : Int)) = t1 at *
 generalize zat r 0 = x0 at *
 generalize zat r 1 = x1 at *
 generalize r.length = lr at *
 generalize L.length = nL at *
 subst hW0
 go_enter Tryz.func141, Tryz.ntmps141
 go_wp2_with fail
 refine (HC0.out _ c0).mono ?_
 rintro e w' ⟨rfl, hw'⟩
 have hw'' := hw'.symm
 subst hw''
 clear hw'
 go_wp2_with fail
 go_ret
 exact ⟨by have h := HE.out; subst h; rfl, HB0.out⟩
theorem wcell0_x (p V : Nat) (L : List InsZ) (size out : Int) (r n : List Int) (aL : Option Addr) (cL : Nat) (ar : Option Addr) (cr : Nat) (an : Option Addr) (cn : Nat) (w : World) (H : VF p L size out r n) (hV : WW p V L size out r n aL cL ar cr an cn w) (ia ib ic : Int) (hi : I64 ia /\ I64 ib /\ I64 ic) (op : Int) (hno : op ≠ 0 /\ op ≠ 1 /\ op ≠ 2 /\ op ≠ 3 /\ op ≠ 4 /\ op ≠ 5 /\ op ≠ 6 /\ op ≠ 7 /\ op ≠ 9 /\ op ≠ 10 /\ op ≠ 11 /\ op ≠ 12 /\ op ≠ 13) :
  Calls Tryz.prog 141 #[.pointer (some ⟨V, 0, none⟩), .agg #[.int .i64 op, .int .i64 ia, .int .i64 ib, .int .i64 ic], .int .i64 0] w fun e w' => e = .returned (.int .i64 (tvC p r 0 ⟨op, ia, ib, ic⟩)) /\ Below w.heap.size w w' := by
 have h3 := H.h3
 have h4 := H.h4
 have HEM := hemL H
 obtain ⟨hia, hib, hic⟩ := hi
 obtain ⟨W0, hW0⟩ := exE (w.alloc (.cells #[.int .i64 op, .int .i64 ia, .int .i64 ib, .int .i64 ic] 180))
 have hb0 := blA hW0
 replace hV := hV.below hb0
 have HB0 := hid hb0
 clear hb0
 obtain ⟨c0, c1, c2, c3, c4, c5⟩ := hV.cells
 have QP := qpL c0
 obtain ⟨br, orr, har, hrw⟩ := rowB_at hV.row H.hr
 subst har
 have r0 := hrw 0 (by omega)
 rw [Nat.add_zero] at r0
 have i0 := H.fr 0
 have l0 := llL H 0
 have l0' := llN H 0
 have r1 := hrw 1 (by omega)
 have i1 := H.fr 1
 have l1 := llL H 1
 have l1' := llN H 1
 clear hrw
 have q0 : (op == 0) = false := by rw [beq_eq_false_iff_ne]; omega
 have q1 : (op == 1) = false := by rw [beq_eq_false_iff_ne]; omega
 have q2 : (op == 2) = false := by rw [beq_eq_false_iff_ne]; omega
 have q3 : (op == 3) = false := by rw [beq_eq_false_iff_ne]; omega
 have q4 : (op == 4) = false := by rw [beq_eq_false_iff_ne]; omega
 have q5 : (op == 5) = false := by rw [beq_eq_false_iff_ne]; omega
 have q6 : (op == 6) = false := by rw [beq_eq_false_iff_ne]; omega
 have q7 : (op == 7) = false := by rw [beq_eq_false_iff_ne]; omega
 have q9 : (op == 9) = false := by rw [beq_eq_false_iff_ne]; omega
 have q10 : (op == 10) = false := by rw [beq_eq_false_iff_ne]; omega
 have q11 : (op == 11) = false := by rw [beq_eq_false_iff_ne]; omega
 have q12 : (op == 12) = false := by rw [beq_eq_false_iff_ne]; omega
 have q13 : (op == 13) = false := by rw [beq_eq_false_iff_ne]; omega
 have HE : Hid (tvC p r 0 ⟨op, ia, ib, ic⟩ = 0) := by unfold Hid; simp [tvC, cel3, hno]
 obtain ⟨R, hR⟩ := exE (tvC p r 0 ⟨op, ia, ib, ic⟩)
 rw [<- hR] at HE ⊢
 clear hR
 clear i0 i1
 clear HEM H hV
 generalize zat r 0 = x0 at *
 generalize zat r 1 = x1 at *
 generalize r.length = lr at *
 generalize L.length = nL at *
 subst hW0
 go_enter Tryz.func141, Tryz.ntmps141
 go_wp2_with fail
 go_ret
 exact ⟨by have h := HE.out; subst h; rfl, HB0.out⟩
end Go.Proofs.YtjlngcmkgkiplaaGreatDoor
