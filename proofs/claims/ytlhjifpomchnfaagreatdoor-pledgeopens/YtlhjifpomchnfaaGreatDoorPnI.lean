
import Derived.Test.YtlhjifpomchnfaaGreatDoorPoAZ
import Derived.Test.YtlhjifpomchnfaaGreatDoorPoAY
import Derived.Test.YtlhjifpomchnfaaGreatDoorPoBA
import Derived.Test.YtlhjifpomchnfaaGreatDoorPoBD
set_option maxRecDepth 1000000
set_option maxHeartbeats 8000000
namespace Go.Proofs.YtlhjifpomchnfaaGreatDoor
open Go.RowKit
def opG (q n : Nat) (s r : Int) (N v asked : Nat) (t at' D : List Int) : Plg :=
 ⟨ctz q n s r N v t,
  opM q v (pwl q (zat (pgD q n (ctz q n s r N v t) at' D) 0) (2 ^ (v / 2))) t,
  opM q v (wgL q (at'.take (v / 2))) t,
  pgP q n N asked (pgE q n (opM q v (pwl q (zat (pgD q n (ctz q n s r N v t) at' D) 0) (2 ^ (v / 2))) t) (opM q v (wgL q (at'.take (v / 2))) t) (pgD q n (ctz q n s r N v t) at' D)),
  shw q (cll q s r N (rwl (2 ^ (v - v / 2)) (2 ^ (v / 2)) t)) (pgP q n N asked (pgE q n (opM q v (pwl q (zat (pgD q n (ctz q n s r N v t) at' D) 0) (2 ^ (v / 2))) t) (opM q v (wgL q (at'.take (v / 2))) t) (pgD q n (ctz q n s r N v t) at' D))),
  ndf q n N (cll q s r N (rwl (2 ^ (v - v / 2)) (2 ^ (v / 2)) t)) (pgP q n N asked (pgE q n (opM q v (pwl q (zat (pgD q n (ctz q n s r N v t) at' D) 0) (2 ^ (v / 2))) t) (opM q v (wgL q (at'.take (v / 2))) t) (pgD q n (ctz q n s r N v t) at' D))) 0⟩
def opD (q n : Nat) (s r : Int) (N v asked : Nat) (t at' D : List Int) : List Int :=
 pld q n asked (pgE q n (opG q n s r N v asked t at' D).mixed (opG q n s r N v asked t at' D).point (pgD q n (opG q n s r N v asked t at' D).root at' D))
theorem pgP_in {q n N asked : Nat} (hN : 1 <= N) (D : List Int) : ∀ x, x ∈ ls (plz q n N D) asked -> 0 <= x /\ x < (N : Int) := fun x hx => by
 unfold ls at hx
 obtain ⟨i, _, rfl⟩ := List.mem_map.1 hx
 exact plz_bounds (by omega) _ _
theorem pgP_asc {q n N asked : Nat} (hN : 1 <= N) (D : List Int) : AscN (N : Int) (pgP q n N asked D) := ascN_once (onc_is _) (pgP_in hN D)
theorem pgP_le {q n N asked : Nat} (D : List Int) : (pgP q n N asked D).length <= asked := by
 unfold pgP
 have h := asc_le (onc_is (ls (plz q n N D) asked)).1 (fun x hx => ((onc_is (ls (plz q n N D) asked)).2 x).1 hx)
 rw [ls_len] at h
 exact h
theorem opened_taken {q n N v asked : Nat} {s r : Int} (h3 : 3 <= q) (hN1 : 1 <= N) (hN2 : N <= 65536) (t at' D : List Int) (ht : t.length = 2 ^ v) :
  pgSh q n N (v / 2) (opG q n s r N v asked t at' D).root (opG q n s r N v asked t at' D).ps (pgP q n N asked (pgE q n (opG q n s r N v asked t at' D).mixed (opG q n s r N v asked t at' D).point (pgD q n (opG q n s r N v asked t at' D).root at' D))) (opG q n s r N v asked t at' D).rows (opG q n s r N v asked t at' D).nodes = true /\
  agB q N r s (opG q n s r N v asked t at' D).mixed (opG q n s r N v asked t at' D).ps (opG q n s r N v asked t at' D).rows (fun l => evz q l (zat (pgD q n (opG q n s r N v asked t at' D).root at' D) 0)) = true /\
  agB q N r s (opG q n s r N v asked t at' D).point (opG q n s r N v asked t at' D).ps (opG q n s r N v asked t at' D).rows (fun l => dtz q l.length l (wgL q (at'.take (v / 2)))) = true := by
 obtain ⟨rows, hrows⟩ : ∃ rows, rows = rwl (2 ^ (v - v / 2)) (2 ^ (v / 2)) t := ⟨_, rfl⟩
 have hM : rows.length = 2 ^ (v / 2) := by rw [hrows, rwl_len]
 have hw : ∀ k, k < 2 ^ (v / 2) -> (rat rows k).length = 2 ^ (v - v / 2) := fun k hk => by rw [hrows]; exact rwl_wide (by rw [ht]; exact half_two v) hk
 obtain ⟨pl, hpl⟩ : ∃ pl, pl = (opG q n s r N v asked t at' D).ps := ⟨_, rfl⟩
 have hasc : AscN (N : Int) pl := by rw [hpl]; exact pgP_asc hN1 _
 have hps : ∀ k, k < pl.length -> 0 <= zat pl k /\ zat pl k < (N : Int) := fun k hk => ⟨(hasc k hk).1, (hasc k hk).2.1⟩
 have hcl : (cll q s r N rows).length = N := cll_len _ _ _ _ _
 refine ⟨?_, ?_, ?_⟩
 ·unfold pgSh
  rw [Bool.and_eq_true, Bool.and_eq_true]
  refine ⟨decide_eq_true rfl, wiB_yes (fun k hk => ?_), ?_⟩
  ·show (rat (shw q (cll q s r N (rwl (2 ^ (v - v / 2)) (2 ^ (v / 2)) t)) (opG q n s r N v asked t at' D).ps) k).length = _
   have hk' : k < pl.length := by
    have : k < (shw q (cll q s r N rows) pl).length := by rw [hrows, hpl]; exact hk
    rwa [shw_len] at this
   rw [<- hrows, <- hpl, shown_col h3 hM hk' (hps k hk'), ls_len]
  ·show chkf q n (ctz q n s r N v t) (N : Int) (opG q n s r N v asked t at' D).ps (shw q (cll q s r N (rwl (2 ^ (v - v / 2)) (2 ^ (v / 2)) t)) (opG q n s r N v asked t at' D).ps) (ndf q n N (cll q s r N (rwl (2 ^ (v - v / 2)) (2 ^ (v / 2)) t)) (opG q n s r N v asked t at' D).ps 0) = true
   unfold ctz
   rw [<- hrows, <- hpl]
   have h := chk_shown h3 n (cll q s r N rows) pl (by omega) (by omega) (by rw [hcl]; exact hasc)
   rw [hcl] at h
   exact h
 ·show agB q N r s (opM q v (pwl q (zat (pgD q n (opG q n s r N v asked t at' D).root at' D) 0) (2 ^ (v / 2))) t) (opG q n s r N v asked t at' D).ps (shw q (cll q s r N (rwl (2 ^ (v - v / 2)) (2 ^ (v / 2)) t)) (opG q n s r N v asked t at' D).ps) _ = true
  unfold opM
  rw [<- hrows, <- hpl]
  exact agB_smr h3 _ hM hw hps _ (fun l hl => by rw [evz_dtz h3, hl])
 ·show agB q N r s (opM q v (wgL q (at'.take (v / 2))) t) (opG q n s r N v asked t at' D).ps (shw q (cll q s r N (rwl (2 ^ (v - v / 2)) (2 ^ (v / 2)) t)) (opG q n s r N v asked t at' D).ps) _ = true
  unfold opM
  rw [<- hrows, <- hpl]
  exact agB_smr h3 _ hM hw hps _ (fun l hl => by rw [hl, dtz_comm])
theorem opG_bounds {q n N v asked : Nat} {s r : Int} (h3 : 3 <= q) (h4 : q <= 2147483647) (hN1 : 1 <= N) (hN2 : N <= 65536) (hv : v <= 12) (ha : asked <= 64) (t at' D : List Int) (hat : at'.length = v) (hfa : Fits at') :
  PlF (opG q n s r N v asked t at' D).root (opG q n s r N v asked t at' D).mixed (opG q n s r N v asked t at' D).point (opG q n s r N v asked t at' D).ps (opG q n s r N v asked t at' D).rows (opG q n s r N v asked t at' D).nodes at' /\ (opG q n s r N v asked t at' D).root.length = 4 /\ (opG q n s r N v asked t at' D).mixed.length = 2 ^ (v - v / 2) /\ (opG q n s r N v asked t at' D).point.length = 2 ^ (v - v / 2) := by
 have hm12 : 2 ^ (v / 2) <= 4096 := by have := Nat.pow_le_pow_right (show 0 < 2 by omega) (show v / 2 <= 12 by omega); omega
 have hst2 : 2 ^ (v - v / 2) <= 4096 := by have := Nat.pow_le_pow_right (show 0 < 2 by omega) (show v - v / 2 <= 12 by omega); omega
 have hasc : AscN (N : Int) (opG q n s r N v asked t at' D).ps := pgP_asc hN1 _
 have hle : (opG q n s r N v asked t at' D).ps.length <= asked := pgP_le _
 have hcl : (cll q s r N (rwl (2 ^ (v - v / 2)) (2 ^ (v / 2)) t)).length = N := cll_len _ _ _ _ _
 have hCF : FitsR (cll q s r N (rwl (2 ^ (v - v / 2)) (2 ^ (v / 2)) t)) := cll_fits h3 h4 s r N _ hN2 (by rw [rwl_len]; exact hm12)
 have hr4 : (opG q n s r N v asked t at' D).root.length = 4 := rtf_len _ _ _ _ hN1
 have hm : (opG q n s r N v asked t at' D).mixed.length = 2 ^ (v - v / 2) := opM_len _ _ _ _
 have hp : (opG q n s r N v asked t at' D).point.length = 2 ^ (v - v / 2) := opM_len _ _ _ _
 have hrl : (opG q n s r N v asked t at' D).rows.length = (opG q n s r N v asked t at' D).ps.length := shw_len _ _ _
 have hnl : (opG q n s r N v asked t at' D).nodes.length <= N := by
  have h := ndf_len q n N (cll q s r N (rwl (2 ^ (v - v / 2)) (2 ^ (v / 2)) t)) (opG q n s r N v asked t at' D).ps 0 (by omega)
  rw [hcl] at h
  exact h
 refine ⟨⟨?_, smr_fits h4 h3 _ _ _ _, smr_fits h4 h3 _ _ _ _, fun j hj => ?_, shw_fits h3 h4 hCF (by rw [hcl]; exact hasc), ?_, hfa, by omega, by omega, by omega, by omega, by omega, by omega, by omega⟩, hr4, hm, hp⟩
 ·show Fits (ctz q n s r N v t)
  unfold ctz
  exact fun j hj => rtf_fits h3 h4 _ _ _ _ hj
 ·have := hasc j hj
  omega
 ·have h := ndf_fits h3 h4 n (rows := cll q s r N (rwl (2 ^ (v - v / 2)) (2 ^ (v / 2)) t)) (opG q n s r N v asked t at' D).ps (by omega)
  rw [hcl] at h
  exact h
theorem cdigest_ns (N0 q n c : Nat) (D : List Int) (w : World) (hP : PCh N0 q n w c D) (hD : Dig D) :
  Calls Tryz.prog 15 #[.pointer (some ⟨c, 0, none⟩)] w fun e w' => ∃ g N, e = .returned (.slice (some ⟨g, 0, none⟩) 4 N) /\ w.heap.size <= g /\ RowB w'.heap.size w' (some ⟨g, 0, none⟩) D /\ Below w.heap.size w w' := by
 have hD4 := hD.1
 obtain ⟨s, b, d, _, _, _, _, _, hblk⟩ := hP
 have HCL := hid (clone_own (some ⟨c, 1, none⟩) 4 D w (by omega) (by omega) (five_lst hD4 hblk))
 rw [hD4] at HCL
 clear hblk hD
 go_enter Tryz.func15, Tryz.ntmps15
 go_wp2_with fail
 refine HCL.out.mono ?_
 rintro e w1 ⟨v, rfl, hown, hb⟩
 have hown4 : w1.ownsRow w.heap.size 3 1 v D.length (D.map (Value.int .i64)) := by rw [hD4]; exact hown
 obtain ⟨a2, c2, hv2, hl2⟩ := lst_of_owns hown4
 rw [hD4] at hv2
 rcases hown.2 with ⟨_, h0⟩ | ⟨g, cap, cur, rfl, hbg, hgc, hn, hm, hs, _⟩
 ·omega
 ·injection hv2 with e1 _ e3
  subst e1
  subst e3
  have HE : Hid (w.heap.size <= g /\ RowB w1.heap.size w1 (some ⟨g, 0, none⟩) D /\ Below w.heap.size w w1) := ⟨hbg, hl2.row, hb⟩
  clear hown hown4 hl2 hb hbg hgc hn hm hs HCL
  go_wp2_with fail
  go_ret
  exact ⟨g, cap, rfl, HE.out⟩
theorem pledges_same (A B : PlA) (o : Plg) (w : World) (hA : PlW w A o) (hB : PlW w B o) (h1 : o.root.length <= 9223372036854775807) (h2 : o.mixed.length <= 9223372036854775807) (h3 : o.point.length <= 9223372036854775807) (h4 : o.ps.length <= 9223372036854775807) (h5 : o.rows.length <= 9223372036854775807) (h6 : o.nodes.length <= 9223372036854775807)
  (h7 : ∀ k, k < o.rows.length -> (rat o.rows k).length <= 9223372036854775807) (h8 : ∀ k, k < o.nodes.length -> (rat o.nodes k).length <= 9223372036854775807) :
  Calls Tryz.prog 12 #[.agg (plC A o), .agg (plC B o)] w fun e w' => e = .returned (.bool true) /\ Below w.heap.size w w' := by
 obtain ⟨W0, hW0⟩ : ∃ W0, W0 = (w.alloc (.cells (plC A o) 33)).alloc (.cells (plC B o) 33) := ⟨_, rfl⟩
 have hb0 : Below w.heap.size w W0 := by rw [hW0]; exact ((Below.refl _ _).alloc (Nat.le_refl _) _).alloc (by simp) _
 obtain ⟨PA, hPA⟩ : ∃ PA, PA = w.heap.size := ⟨_, rfl⟩
 obtain ⟨PB, hPB⟩ : ∃ PB, PB = w.heap.size + 1 := ⟨_, rfl⟩
 have hsA : W0.heap[PA]? = some (.cells (plC A o) 33 (0, 0)) := by
  rw [hW0, hPA]
  have := heap_alloc_new w (.cells (plC A o) 33)
  have hb := (Below.refl (w.alloc (.cells (plC A o) 33)).heap.size (w.alloc (.cells (plC A o) 33))).alloc (Nat.le_refl _) (.cells (plC B o) 33)
  exact (hb.block _ (by simp)).trans this
 have hsB : W0.heap[PB]? = some (.cells (plC B o) 33 (0, 0)) := by
  rw [hW0, hPB]
  have := heap_alloc_new (w.alloc (.cells (plC A o) 33)) (.cells (plC B o) 33)
  simpa using this
 have HI1 : Hid (∀ W, Below w.heap.size w W -> Calls Tryz.prog 16 #[.slice A.a1 o.root.length A.c1, .slice B.a1 o.root.length B.c1] W fun e w' => e = .returned (.bool true) /\ ∃ n, w' = W.drewN n) := fun W hW => ints_same _ _ o.root _ _ _ _ W (hA.step hW).l1.row (hB.step hW).l1.row h1
 have HI2 : Hid (∀ W, Below w.heap.size w W -> Calls Tryz.prog 16 #[.slice A.a2 o.mixed.length A.c2, .slice B.a2 o.mixed.length B.c2] W fun e w' => e = .returned (.bool true) /\ ∃ n, w' = W.drewN n) := fun W hW => ints_same _ _ o.mixed _ _ _ _ W (hA.step hW).l2.row (hB.step hW).l2.row h2
 have HI3 : Hid (∀ W, Below w.heap.size w W -> Calls Tryz.prog 16 #[.slice A.a3 o.point.length A.c3, .slice B.a3 o.point.length B.c3] W fun e w' => e = .returned (.bool true) /\ ∃ n, w' = W.drewN n) := fun W hW => ints_same _ _ o.point _ _ _ _ W (hA.step hW).l3.row (hB.step hW).l3.row h3
 have HOP : Hid (∀ W, Below w.heap.size w W -> Calls Tryz.prog 39 #[.agg #[.slice A.ap o.ps.length A.cp, .slice A.ar o.rows.length A.cr, .slice A.an o.nodes.length A.cn], .agg #[.slice B.ap o.ps.length B.cp, .slice B.ar o.rows.length B.cr, .slice B.an o.nodes.length B.cn]] W fun e w' => e = .returned (.bool true) /\ Below W.heap.size W w') := fun W hW => by
  have h := openings_any A.cp A.cr A.cn B.cp B.cr B.cn A.ap A.ar A.an B.ap B.ar B.an o.ps o.ps o.rows o.rows o.nodes o.nodes W h4 h4 h5 h5 h6 h6 h7 h7 h8 h8 (hA.step hW).lp.row (hB.step hW).lp.row (hA.step hW).lr (hB.step hW).lr (hA.step hW).ln (hB.step hW).ln
  simp only [decide_true, Bool.and_self] at h
  exact h
 have HKA : Hid (∀ W, Below W0.heap.size W0 W -> (W.cell? ⟨PA, 0, none⟩ = some (.slice A.a1 o.root.length A.c1) /\ W.cell? ⟨PA, 1, none⟩ = some (.slice A.a2 o.mixed.length A.c2) /\ W.cell? ⟨PA, 2, none⟩ = some (.slice A.a3 o.point.length A.c3) /\ W.cell? ⟨PA, 3, none⟩ = some (.slice A.ap o.ps.length A.cp) /\ W.cell? ⟨PA, 4, none⟩ = some (.slice A.ar o.rows.length A.cr) /\ W.cell? ⟨PA, 5, none⟩ = some (.slice A.an o.nodes.length A.cn)) /\ (W.cell? ⟨PB, 0, none⟩ = some (.slice B.a1 o.root.length B.c1) /\ W.cell? ⟨PB, 1, none⟩ = some (.slice B.a2 o.mixed.length B.c2) /\ W.cell? ⟨PB, 2, none⟩ = some (.slice B.a3 o.point.length B.c3) /\ W.cell? ⟨PB, 3, none⟩ = some (.slice B.ap o.ps.length B.cp) /\ W.cell? ⟨PB, 4, none⟩ = some (.slice B.ar o.rows.length B.cr) /\ W.cell? ⟨PB, 5, none⟩ = some (.slice B.an o.nodes.length B.cn))) := fun W hW => by
  have e1 := (hW.block PA (Array.getElem?_eq_some_iff.1 hsA).1).trans hsA
  have e2 := (hW.block PB (Array.getElem?_eq_some_iff.1 hsB).1).trans hsB
  refine ⟨⟨?_, ?_, ?_, ?_, ?_, ?_⟩, ?_, ?_, ?_, ?_, ?_, ?_⟩ <;> simp [World.cell?, e1, e2]
 have HB0 := hid hb0
 obtain ⟨⟨x0, _⟩, y0, _⟩ := HKA.out W0 (Below.refl _ _)
 unfold plC at hW0
 rw [hPA, hW0] at x0
 rw [hPB, hW0] at y0
 have HW0 := hid hW0
 have HPAE := hid hPA
 have HPBE := hid hPB
 unfold plC
 clear hA hB hb0 hsA hsB hW0 hPA hPB h1 h2 h3 h4 h5 h6 h7 h8
 generalize o.root.length = n1 at *
 generalize o.mixed.length = n2 at *
 generalize o.point.length = n3 at *
 generalize o.ps.length = n4 at *
 generalize o.rows.length = n5 at *
 generalize o.nodes.length = n6 at *
 go_enter Tryz.func12, Tryz.ntmps12
 go_wp2_with fail
 rw [<- HPBE.out, <- HPAE.out, <- HW0.out]
 refine (HI1.out W0 HB0.out).mono ?_
 rintro e w1 ⟨rfl, m1, rfl⟩
 have HB1 := hid (below_drewN HB0.out m1)
 have HD1 := hid (below_drewN (Below.refl W0.heap.size W0) m1)
 generalize W0.drewN m1 = W1 at *
 obtain ⟨⟨z0, z1, z2, z3, z4, z5⟩, t0, t1, t2, t3, t4, t5⟩ := HKA.out W1 HD1.out
 clear x0 y0 HW0 HPAE HPBE HI1 HB0
 go_wp2_with fail
 refine (HI2.out W1 HB1.out).mono ?_
 rintro e w1 ⟨rfl, m2, rfl⟩
 have HB2 := hid (below_drewN HB1.out m2)
 have HD2 := hid (below_drewN HD1.out m2)
 generalize W1.drewN m2 = W2 at *
 clear z0 z1 z2 z3 z4 z5 t0 t1 t2 t3 t4 t5 HI2 HB1 HD1
 obtain ⟨⟨z0, z1, z2, z3, z4, z5⟩, t0, t1, t2, t3, t4, t5⟩ := HKA.out W2 HD2.out
 go_wp2_with fail
 refine (HI3.out W2 HB2.out).mono ?_
 rintro e w1 ⟨rfl, m3, rfl⟩
 have HB3 := hid (below_drewN HB2.out m3)
 have HD3 := hid (below_drewN HD2.out m3)
 generalize W2.drewN m3 = W3 at *
 clear z0 z1 z2 z3 z4 z5 t0 t1 t2 t3 t4 t5 HI3 HB2 HD2
 obtain ⟨⟨z0, z1, z2, z3, z4, z5⟩, t0, t1, t2, t3, t4, t5⟩ := HKA.out W3 HD3.out
 go_wp2_with fail
 refine (HOP.out W3 HB3.out).mono ?_
 rintro e w4 ⟨rfl, hb4⟩
 have HE := hid (HB3.out.trans (hb4.mono HB3.out.size))
 clear z0 z1 z2 z3 z4 z5 t0 t1 t2 t3 t4 t5 HOP hb4
 go_wp2_with fail
 go_ret
 exact ⟨rfl, HE.out⟩
theorem opD_dig {q n N v asked : Nat} {s r : Int} (h3 : 3 <= q) (h4 : q <= 2147483647) (t at' D : List Int) : Dig (opD q n s r N v asked t at' D) := pg_dig h3 h4 n (dig_digl h3 h4 _ _) _
theorem opG_ext {q n N v asked : Nat} {s r : Int} (t at' D : List Int) (hat : at'.length = v) : dtz q (2 ^ (v - v / 2)) (opG q n s r N v asked t at' D).point (wgL q (at'.drop (v / 2))) = Sum.ext (zat t) (zat at') at'.length % (q : Int) := by
 show dtz q (2 ^ (v - v / 2)) (opM q v (wgL q (at'.take (v / 2))) t) (wgL q (at'.drop (v / 2))) = _
 unfold opM
 rw [opened_ext (hi := v / 2) (lo := v - v / 2) t at' (by omega), hat, show v / 2 + (v - v / 2) = v from by omega]
structure PlS (w : World) (A : PlA) (o : Plg) : Prop where
 s1 : SlR w o.root (.slice A.a1 o.root.length A.c1)
 s2 : SlR w o.mixed (.slice A.a2 o.mixed.length A.c2)
 s3 : SlR w o.point (.slice A.a3 o.point.length A.c3)
 sp : SlR w o.ps (.slice A.ap o.ps.length A.cp)
 sr : OwnR 0 w (.slice A.ar o.rows.length A.cr) o.rows
 sn : OwnR 0 w (.slice A.an o.nodes.length A.cn) o.nodes
theorem slr_lst {w : World} {l : List Int} {a : Option Addr} {n c : Nat} (h : SlR w l (.slice a n c)) : Lst w.heap.size w a c l := by
 obtain ⟨a', c', e, hl⟩ := h.lst
 cases e
 exact hl
theorem ownR_lstR {base : Nat} {w : World} {rs : List (List Int)} {a : Option Addr} {n c : Nat} (h : OwnR base w (.slice a n c) rs) : LstR w.heap.size w a c rs := by
 obtain ⟨a', c', e, hl⟩ := h.lst
 cases e
 exact hl
theorem PlS.plw {w : World} {A : PlA} {o : Plg} (h : PlS w A o) : PlW w A o := ⟨slr_lst h.s1, slr_lst h.s2, slr_lst h.s3, slr_lst h.sp, ownR_lstR h.sr, ownR_lstR h.sn⟩
theorem PlS.keep {w W : World} {A : PlA} {o : Plg} (h : PlS w A o) (e : Below w.heap.size w W) : PlS W A o := ⟨SlR.keep h.s1 e, SlR.keep h.s2 e, SlR.keep h.s3 e, SlR.keep h.sp e, OwnR.keep h.sr e, OwnR.keep h.sn e⟩
theorem PlS.pstep {w W : World} {A : PlA} {o : Plg} {N0 q n c : Nat} {D : List Int} (h : PlS w A o) (hc : PCh N0 q n w c D) (e : w.grownBy W (some c)) : PlS W A o := ⟨SlR.pstep h.s1 hc e, SlR.pstep h.s2 hc e, SlR.pstep h.s3 hc e, SlR.pstep h.sp hc e, OwnR.pstep h.sr hc e, OwnR.pstep h.sn hc e⟩
theorem popen_plg (N0 q n dd sb sp c b d v cT c4 N asked ap o : Nat) (s r : Int) (a4 : Option Addr) (t at' D : List Int) (w : World) (ok : SpgOk q n dd) (hP : PCh N0 q n w c D) (hD0 : Dig D)
  (RO : ∀ W, w.grownBy W (some c) -> SpgAt W sp sb q n dd /\ DO W q b d N r s /\ Lst W.heap.size W (some ⟨ap, o, none⟩) cT t /\ Lst W.heap.size W a4 c4 at') (hT : TabAt 2 Lib.deBruijn64tab w) (hv : v <= 12) (hat : at'.length = v) (ht : t.length = 2 ^ v) (hft : Fits t) (hfa : Fits at') (ha1 : 1 <= asked) (ha : asked <= 64) (hf : 2 ^ (v - v / 2) <= N / 2) :
  Calls Tryz.prog 7 #[.pointer (some ⟨sp, 0, none⟩), .pointer (some ⟨c, 0, none⟩), .pointer (some ⟨d, 0, none⟩), .slice (some ⟨ap, o, none⟩) t.length cT, .slice a4 at'.length c4, .int .i64 (asked : Int)] w fun e w' => ∃ A : PlA, e = .returned (.tuple #[.agg (plC A (opG q n s r N v asked t at' D)), .int .i64 (Sum.ext (zat t) (zat at') at'.length % (q : Int)), .nilIface]) /\ PlS w' A (opG q n s r N v asked t at' D) /\ PCh N0 q n w' c (opD q n s r N v asked t at' D) /\ w.grownBy w' (some c) := by
 refine (popen_yes N0 q n dd sb sp c b d v cT c4 N asked ap o s r a4 t at' D w ok hP hD0 RO hT hv hat ht hft hfa ha1 ha hf).mono ?_
 rintro e w' ⟨root, mixed, point, D1, D2, pl, u0, u1, u2, u3, u4, u5, ⟨rfl, rfl, rfl, rfl, rfl, rfl⟩, rfl, ⟨h0, h1, h2, h3, h4, h5⟩, hc, hg⟩
 obtain ⟨a0, c0, rfl, _⟩ := h0.lst
 obtain ⟨a1, c1, rfl, _⟩ := h1.lst
 obtain ⟨a2, c2, rfl, _⟩ := h2.lst
 obtain ⟨a3, c3, rfl, _⟩ := h3.lst
 obtain ⟨a5, c5, rfl, _⟩ := h4.lst
 obtain ⟨a6, c6, rfl, _⟩ := h5.lst
 rw [<- opG_ext (q := q) (n := n) (N := N) (v := v) (asked := asked) (s := s) (r := r) t at' D hat]
 exact ⟨⟨a0, a1, a2, a3, a5, a6, c0, c1, c2, c3, c5, c6⟩, rfl, ⟨h0, h1, h2, h3, h4, h5⟩, hc, hg⟩
theorem ropen_plg (q n rc N v asked cT c4 : Nat) (s r : Int) (aT a4 : Option Addr) (t at' D : List Int) (w : World) (h5 : 5 <= q) (h4 : q <= 2147483647) (hpn : Spo.PowIs q n) (hr0 : 0 <= r) (hr1 : r < q) (hs0 : 0 <= s) (hs1 : s < q) (hN1 : 1 <= N) (hN2 : N <= 65536) (hch : RCh q w rc D) (hD : Dig D)
  (RO : ∀ W, w.grownBy W (some rc) -> Lst W.heap.size W aT cT t /\ Lst W.heap.size W a4 c4 at') (hv : v <= 12) (hat : at'.length = v) (ht : t.length = 2 ^ v) (hft : Fits t) (hfa : Fits at') (ha1 : 1 <= asked) (ha : asked <= 64) :
  Calls Tryz.prog 14 #[.pointer (some ⟨rc, 0, none⟩), .agg #[.int .i64 (q : Int), .int .i64 (N : Int), .int .i64 s, .int .i64 r], .slice aT t.length cT, .slice a4 at'.length c4, .int .i64 (asked : Int)] w fun e w' => ∃ A : PlA, e = .returned (.tuple #[.agg (plC A (opG q n s r N v asked t at' D)), .int .i64 (Sum.ext (zat t) (zat at') at'.length % (q : Int))]) /\ PlW w' A (opG q n s r N v asked t at' D) /\ RCh q w' rc (opD q n s r N v asked t at' D) /\ w.grownBy w' (some rc) := by
 refine (ropen12_any q n rc N v asked cT c4 s r aT a4 t at' D w h5 h4 hpn hr0 hr1 hs0 hs1 hN1 hN2 hch hD RO hv hat ht hft hfa ha1 ha).mono ?_
 rintro e w' ⟨root, mixed, point, D1, D2, pl, u0, u1, u2, u3, u4, u5, ⟨rfl, rfl, rfl, rfl, rfl, rfl⟩, rfl, ⟨h0, h1, h2, h3, h4, h5⟩, hc, hg⟩
 obtain ⟨a0, c0, rfl, l0⟩ := h0.lst
 obtain ⟨a1, c1, rfl, l1⟩ := h1.lst
 obtain ⟨a2, c2, rfl, l2⟩ := h2.lst
 obtain ⟨a3, c3, rfl, l3⟩ := h3.lst
 obtain ⟨a5, c5, rfl, l4⟩ := h4.lst
 obtain ⟨a6, c6, rfl, l5⟩ := h5.lst
 rw [<- opG_ext (q := q) (n := n) (N := N) (v := v) (asked := asked) (s := s) (r := r) t at' D hat]
 exact ⟨⟨a0, a1, a2, a3, a5, a6, c0, c1, c2, c3, c5, c6⟩, rfl, ⟨l0, l1, l2, l3, l4, l5⟩, hc, hg⟩
theorem pcheck_plg (N0 q n dd sb sp b d N v asked c : Nat) (r s : Int) (A : PlA) (a4 : Option Addr) (c4 : Nat) (t at' D : List Int) (w : World)
  (O : PlO w c q n dd sb sp b d N r s A.a1 A.a2 A.a3 A.ap A.ar A.an a4 A.c1 A.c2 A.c3 A.cp A.cr A.cn c4 (opG q n s r N v asked t at' D).root (opG q n s r N v asked t at' D).mixed (opG q n s r N v asked t at' D).point (opG q n s r N v asked t at' D).ps (opG q n s r N v asked t at' D).rows (opG q n s r N v asked t at' D).nodes at') (ok : SpgOk q n dd) (hP : PCh N0 q n w c D) (hD : Dig D)
  (h3 : 3 <= q) (h4 : q <= 2147483647) (hN1 : 1 <= N) (hN2 : N <= 65536) (hv : v <= 12) (hf : 2 ^ (v - v / 2) <= N / 2) (hat : at'.length = v) (ht : t.length = 2 ^ v) (hfa : Fits at') (ha1 : 1 <= asked) (ha : asked <= 64) :
  Calls Tryz.prog 17 #[.pointer (some ⟨sp, 0, none⟩), .pointer (some ⟨c, 0, none⟩), .pointer (some ⟨d, 0, none⟩), .int .i64 (v : Int), .slice a4 at'.length c4, .int .i64 (asked : Int), .agg (plC A (opG q n s r N v asked t at' D))] w fun e w' => e = .returned (.tuple #[.int .i64 (Sum.ext (zat t) (zat at') at'.length % (q : Int)), .bool true]) /\ PCh N0 q n w' c (opD q n s r N v asked t at' D) /\ w.grownBy w' (some c) := by
 obtain ⟨hF, e1, e2, e3⟩ := opG_bounds (n := n) (s := s) (r := r) h3 h4 hN1 hN2 hv ha t at' D hat hfa
 refine (pcheck_yes N0 q n dd sb sp b d N v asked c r s A.a1 A.a2 A.a3 A.ap A.ar A.an a4 A.c1 A.c2 A.c3 A.cp A.cr A.cn c4 (opG q n s r N v asked t at' D).root (opG q n s r N v asked t at' D).mixed (opG q n s r N v asked t at' D).point (opG q n s r N v asked t at' D).ps (opG q n s r N v asked t at' D).rows (opG q n s r N v asked t at' D).nodes at' D w O hF ok hP hD hv hf hat ha1 ha e1 e2 e3).mono ?_
 rintro e w' ⟨hy, _, hc, hg⟩
 have he := hy (opened_taken h3 hN1 hN2 t at' D ht)
 rw [e3, opG_ext t at' D hat] at he
 exact ⟨he, hc, hg⟩
end Go.Proofs.YtlhjifpomchnfaaGreatDoor
