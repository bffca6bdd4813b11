/- Package gates: Check. -/
import Derived.Test.YtaapbopcfpihbabGreatDoorGuE
import Derived.Test.YtaapbopcfpihbabGreatDoorGkAO
namespace Go.Proofs.YtaapbopcfpihbabGreatDoor
open Go.RowKit

/-- lists of lists of lists that can be read -/
structure LstRR (n0 : Nat) (w : World) (a : Option Addr) (cap : Nat) (Rs : List (List (List Int))) : Prop where
  row : ∀ k, k < Rs.length → ∃ b o ak ck, a = some ⟨b, o, none⟩ ∧ b < n0 ∧ w.cell? ⟨b, o + k, none⟩ = some (.slice ak (rrt Rs k).length ck) ∧ LstR n0 w ak ck (rrt Rs k)
  room : Rs.length ≤ cap
  nil : a = none → cap = 0
theorem LstRR.below {n0 : Nat} {A B : World} {a : Option Addr} {cap : Nat} {Rs : List (List (List Int))} (r : LstRR n0 A a cap Rs) (h : Below n0 A B) : LstRR n0 B a cap Rs :=
  ⟨fun k hk => by
    obtain ⟨b, o, ak, ck, e1, e2, e3, e4⟩ := r.row k hk
    exact ⟨b, o, ak, ck, e1, e2, (h.cell (p := ⟨b, o + k, none⟩) e2).trans e3, e4.below h⟩, r.room, r.nil⟩
/-- how great what is told may be -/
structure LayB (Rs : List (List (List Int))) (Ls : List (List Int)) : Prop where
  r0 : Rs.length ≤ 281474976710656
  r1 : ∀ k, k < Rs.length → (rrt Rs k).length ≤ 5864062014634 ∧ ∀ j, j < (rrt Rs k).length → (rat (rrt Rs k) j).length ≤ 17592186043904 ∧ Fits (rat (rrt Rs k) j)
  l0 : Ls.length ≤ 5864062014634
  l1 : ∀ k, k < Ls.length → (rat Ls k).length ≤ 17592186043904 ∧ Fits (rat Ls k)
theorem LstG.back {n0 : Nat} {A B : World} {a : Option Addr} {cap : Nat} {gs : List GatZ} (r : LstG n0 B a cap gs) (h : Below n0 A B) : LstG n0 A a cap gs :=
  ⟨fun k hk => by
    obtain ⟨b, o, e1, e2, g1, g2, g3⟩ := r.row k hk
    exact ⟨b, o, e1, e2, (h.cell (p := ⟨b, o + k * 3, none⟩) e2).symm.trans g1, (h.cell (p := ⟨b, o + k * 3 + 1, none⟩) e2).symm.trans g2, (h.cell (p := ⟨b, o + k * 3 + 2, none⟩) e2).symm.trans g3⟩, r.room, r.nil⟩
theorem drs_fits {q : Nat} (h3 : 3 ≤ q) (h4 : q ≤ 2147483647) (n : Nat) {D : List Int} (h : Dig D) (k : Nat) : Fits (drs q n k D) := fun j hj => by
  unfold drs at hj ⊢
  rw [ls_len] at hj
  rw [ls_at _ _ _ hj]
  exact (dig_drw h3 h4 n h (j + 1)).2.all 0
structure GsI (wide : Int) (lys : List (List GatZ)) (i : Nat) (s : GSt) : Prop where
  dig : Dig s.D
  len : s.z.length = bnn wide lys (lys.length - i)
  fit : Fits s.z
  c : i64B s.c
theorem gst_ok {q : Nat} (h3 : 3 ≤ q) (h4 : q ≤ 2147483647) (n : Nat) (wide : Int) (lys : List (List GatZ)) (outs : List Int) (Rs : List (List (List Int))) (Ls : List (List Int)) : ∀ i, i ≤ lys.length → GsI wide lys i (gst q n wide lys Rs Ls (gs0 q n wide lys outs) i)
  | 0, _ => by
    have hb := emod_bounds (Sum.ext (zat outs) (zat (drs q n (bnn wide lys lys.length) (digl q n (2 :: (lbz q wide lys lys.length ++ outs))))) (bnn wide lys lys.length)) q h3
    exact ⟨dig_drw h3 h4 n (dig_digl h3 h4 _ _) _, drs_len' _ _ _ _, drs_fits h3 h4 n (dig_digl h3 h4 _ _) _, ⟨by show _ ≤ _ % _; omega, by show _ % _ ≤ _; omega⟩⟩
  | i + 1, h => by
    refine ⟨dig_gan h3 h4 _ _ _, ?_, onl_fits h3 h4 _ _ _, atz_fits h3 h4 _ _⟩
    show (onl _ _ _ _).length = _
    rw [onl_len, List.length_take, gxs_len, show lys.length - (i + 1) = lys.length - 1 - i from by omega]
    omega
set_option maxRecDepth 100000 in
set_option maxHeartbeats 2000000 in
theorem levelOf_at (n0 b i cL : Nat) (wide : Int) (aL : Option Addr) (lys : List (List GatZ)) (w : World) (hS : SzC wide lys) (hi : i < lys.length) (hl : LstGG n0 w aL cL lys) (hn0 : n0 ≤ w.heap.size) (hT : TabAt 2 Lib.deBruijn64tab w) :
    Calls Tryz.prog 19 #[.pointer (some ⟨b, 0, none⟩), .agg #[.int .i64 wide, .slice aL lys.length cL], .int .i64 (i : Int)] w fun e w' => ∃ ag cg, e = .returned (.agg #[.pointer (some ⟨b, 0, none⟩), .slice ag (lyt lys i).length cg, .int .i64 (bnn wide lys i : Int)]) ∧ LstG n0 w ag cg (lyt lys i) ∧ Below w.heap.size w w' := by
  have HRL : Hid (((w.alloc (.cells #[.int .i64 wide, .slice aL lys.length cL] 24)).alloc (.cells #[.pointer none, .slice none 0 0, .int .i64 0] 65)).heap[w.heap.size + 1]? = some (.cells #[.pointer none, .slice none 0 0, .int .i64 0] 65 (0, 0))) := by
    have := heap_alloc_new (w.alloc (.cells #[.int .i64 wide, .slice aL lys.length cL] 24)) (.cells #[.pointer none, .slice none 0 0, .int .i64 0] 65)
    rw [show (w.alloc (.cells #[.int .i64 wide, .slice aL lys.length cL] 24)).heap.size = w.heap.size + 1 from by simp] at this
    exact this
  have HB1 : Hid (Below w.heap.size w ((w.alloc (.cells #[.int .i64 wide, .slice aL lys.length cL] 24)).alloc (.cells #[.pointer none, .slice none 0 0, .int .i64 0] 65))) := ((Below.refl _ _).alloc (Nat.le_refl _) _).alloc (by simp) _
  obtain ⟨bi, oi, ag, cg, ha, hbi, hci, hgi⟩ := hl.row i hi
  have HGI := hid hgi
  subst ha
  obtain ⟨q0, q1⟩ := hS.bn (i := i) (by omega)
  have hlen := hS.2.1.2
  have hin : (i : Int) < (lys.length : Int) := by omega
  have hbi3 : bi < w.heap.size := by omega
  have hbi2 : bi < w.heap.size + 1 := by omega
  clear hn0
  by_cases e0 : i = 0
  · have q2 : wide = (bnn wide lys i : Int) := by rw [← q0]; unfold bnz; rw [if_pos e0]
    rw [← q2]
    have hi0 : ¬ (0 : Int) < (i : Int) := by omega
    generalize (lyt lys i).length = N at *
    generalize lys.length = n at *
    clear hS hl hgi q0 q1 q2 e0 hT
    go_enter Tryz.func19, Tryz.ntmps19
    go_wp2_with (refine wpList_store_row rfl 65 _ _ rfl (w.heap.size + 1) #[.pointer (some ⟨b, 0, none⟩), .slice ag N cg, .int .i64 wide] rfl rfl _ _ HRL.out (by kernel_rfl) rfl (by simp [Value.oneCell']) ?_)
    refine bodyPost_ret (results_cell_row rfl _ _ (w.heap.size + 1) 65 #[.pointer (some ⟨b, 0, none⟩), .slice ag N cg, .int .i64 wide] (0, 0) _ rfl (setRow_heap _ _ _ _ _ _ HRL.out) Tryz.underlying65 rfl (by kernel_rfl)) rfl ?_
    exact ⟨ag, cg, rfl, HGI.out, below_setRow HB1.out (by omega) _⟩
  · obtain ⟨j, hj⟩ : ∃ j, j = i - 1 := ⟨_, rfl⟩
    obtain ⟨bj, oj, aj, cj, ha, hbj, hcj, _⟩ := hl.row j (by omega)
    injection ha with ha
    injection ha with ha1 ha2 _
    subst ha1
    subst ha2
    have hbl : bnn wide lys i ≤ 6 := q1
    obtain ⟨o1, o2⟩ := hS.own (i := j) (by omega)
    rw [show j + 1 = i from by omega] at o1 o2
    have HV := hid (gvars_any (lyt lys j).length (bnn wide lys i) _ hbl o1 (tabu_below hT HB1.out))
    have hi0 : (0 : Int) < (i : Int) := by omega
    have hij : (i : Int) - 1 = (j : Int) := by omega
    have hjn : (j : Int) < (lys.length : Int) := by omega
    generalize bnn wide lys i = B at *
    generalize (lyt lys i).length = N at *
    generalize (lyt lys j).length = M at *
    generalize lys.length = n at *
    clear hS hl hgi q0 q1 e0 hT hbl o1 o2 hj
    go_enter Tryz.func19, Tryz.ntmps19
    go_wp2_with fail
    refine HV.out.mono ?_
    rintro e w1 ⟨rfl, hw⟩
    have hw1 := hw.symm
    subst hw1
    clear hw HV
    go_wp2_with (refine wpList_store_row rfl 65 _ _ rfl (w.heap.size + 1) #[.pointer (some ⟨b, 0, none⟩), .slice ag N cg, .int .i64 (B : Int)] rfl rfl _ _ HRL.out (by kernel_rfl) rfl (by simp [Value.oneCell']) ?_)
    refine bodyPost_ret (results_cell_row rfl _ _ (w.heap.size + 1) 65 #[.pointer (some ⟨b, 0, none⟩), .slice ag N cg, .int .i64 (B : Int)] (0, 0) _ rfl (setRow_heap _ _ _ _ _ _ HRL.out) Tryz.underlying65 rfl (by kernel_rfl)) rfl ?_
    exact ⟨ag, cg, rfl, HGI.out, below_setRow HB1.out (by omega) _⟩
theorem outs_len {wide : Int} {lys : List (List GatZ)} {outs : List Int} (hS : SzC wide lys) (h : outs.length = (lyt lys (lys.length - 1)).length) : outs.length = 2 ^ bnn wide lys lys.length := by
  have h1 := hS.2.1.1
  rw [h, (hS.own (show lys.length - 1 < lys.length by omega)).1, show lys.length - 1 + 1 = lys.length from by omega]

set_option maxRecDepth 100000 in
set_option maxHeartbeats 4000000 in
theorem gcheck_no (sp cL co cR cS : Nat) (wide : Int) (aL ao aR aS : Option Addr) (lys : List (List GatZ)) (outs : List Int) (Rs : List (List (List Int))) (Ls : List (List Int)) (w : World) (hB : CirB lys) (hl : LstGG w.heap.size w aL cL lys) (hno' : ¬ GsO wide lys outs Rs Ls) :
    Calls Tryz.prog 6 #[.pointer (some ⟨sp, 0, none⟩), .agg #[.int .i64 wide, .slice aL lys.length cL], .slice ao outs.length co, .agg #[.slice aR Rs.length cR, .slice aS Ls.length cS]] w fun e w' => e = .returned (.tuple #[.slice none 0 0, .int .i64 0, .bool false]) ∧ Below w.heap.size w w' := by
  obtain ⟨nL, hnL⟩ : ∃ nL, nL = lys.length := ⟨_, rfl⟩
  obtain ⟨no, hno⟩ : ∃ no, no = outs.length := ⟨_, rfl⟩
  obtain ⟨nR, hnR⟩ : ∃ nR, nR = Rs.length := ⟨_, rfl⟩
  obtain ⟨nS, hnS⟩ : ∃ nS, nS = Ls.length := ⟨_, rfl⟩
  obtain ⟨W1, hW1⟩ : ∃ W1, W1 = (w.alloc (.cells #[.int .i64 wide, .slice aL nL cL] 24)).alloc (.cells #[.slice aR nR cR, .slice aS nS cS] 29) := ⟨_, rfl⟩
  obtain ⟨G, hG⟩ : ∃ G, G = w.heap.size := ⟨_, rfl⟩
  obtain ⟨L, hL⟩ : ∃ L, L = w.heap.size + 1 := ⟨_, rfl⟩
  have hb1 : Below w.heap.size w W1 := by rw [hW1]; exact ((Below.refl _ _).alloc (Nat.le_refl _) _).alloc (by simp) _
  have hz1 : W1.heap.size = w.heap.size + 2 := by rw [hW1]; simp
  have hs1 : W1.heap[G]? = some (.cells #[.int .i64 wide, .slice aL nL cL] 24 (0, 0)) := by
    rw [hW1, hG]
    exact (hao _ _ (by simp)).trans (heap_alloc_new w _)
  have hs2 : W1.heap[L]? = some (.cells #[.slice aR nR cR, .slice aS nS cS] 29 (0, 0)) := by
    rw [hW1, hL]
    have := heap_alloc_new (w.alloc (.cells #[.int .i64 wide, .slice aL nL cL] 24)) (.cells #[.slice aR nR cR, .slice aS nS cS] 29)
    simpa using this
  have HCC : Hid (∀ W, Below W1.heap.size W1 W → (W.cell? ⟨G, 0, none⟩ = some (.int .i64 wide) ∧ W.cell? ⟨G, 1, none⟩ = some (.slice aL nL cL)) ∧ W.cell? ⟨L, 0, none⟩ = some (.slice aR nR cR) ∧ W.cell? ⟨L, 1, none⟩ = some (.slice aS nS cS)) := fun W hW => by
    have e1 := (hW.block G (by omega)).trans hs1
    have e2 := (hW.block L (by omega)).trans hs2
    exact ⟨⟨by simp [World.cell?, e1], by simp [World.cell?, e1]⟩, by simp [World.cell?, e2], by simp [World.cell?, e2]⟩
  have HBW : Hid (∀ W, Below W1.heap.size W1 W → Below w.heap.size w W) := fun W hW => hb1.trans (hW.mono (by omega))
  have HFO : Hid (Calls Tryz.prog 16 #[.agg #[.int .i64 wide, .slice aL nL cL]] W1 fun e w' => e = .returned (errz (flt wide lys)) ∧ Below W1.heap.size W1 w') := by
    have h := faultOf_any wide cL aL lys W1 hB (hl.step hb1)
    rw [← hnL] at h
    exact h
  have HW1 := hid hW1
  have HGE := hid hG
  have HLE := hid hL
  by_cases hF : flt wide lys = 0
  rotate_left
  · have hdum : True := trivial
    obtain ⟨ev, hev⟩ : ∃ ev, errz (flt wide lys) = errz ev ∧ (ev = 2 ∨ ev = 3) := by
      rcases flt_cases wide lys with h | h | h
      · exact absurd h hF
      · exact ⟨2, by rw [h], Or.inl rfl⟩
      · exact ⟨3, by rw [h], Or.inr rfl⟩
    rw [hev.1] at HFO
    have HEV := hid hev.2
    rw [← hnL, ← hno, ← hnR, ← hnS]
    clear hdum hnL hno hnR hnS hW1 hG hL hs1 hs2 hz1 hb1 hev hB hl hno' hF
    rcases HEV.out with rfl | rfl
    all_goals
      rw [errz_some (by decide)] at HFO
      go_enter Tryz.func6, Tryz.ntmps6
      go_wp2_with fail
      rw [← HW1.out]
      refine HFO.out.mono ?_
      rintro e w2 ⟨rfl, hb2⟩
      have HE := hid (HBW.out w2 hb2)
      clear hb2
      go_wp2_with fail
      go_ret3
      exact ⟨rfl, HE.out⟩
  obtain ⟨hS, hGC⟩ := flt_zero hF
  have h8 := hS.2.1
  rw [hF, errz_nil] at HFO
  obtain ⟨b1, o1, a1, c1, rfl, hbb, hx1, _⟩ := hl.row (lys.length - 1) (by omega)
  have HX1 : Hid (∀ W, Below w.heap.size w W → W.cell? ⟨b1, o1 + (lys.length - 1), none⟩ = some (.slice a1 (lyt lys (lys.length - 1)).length c1)) := fun W hW => (hW.cell (p := ⟨b1, o1 + (lys.length - 1), none⟩) hbb).trans hx1
  have hdec : ((no : Int) != ((lyt lys (lys.length - 1)).length : Int)) = true ∨ (((no : Int) != ((lyt lys (lys.length - 1)).length : Int)) = false ∧ (((nR : Int) != (nL : Int)) = true ∨ (((nR : Int) != (nL : Int)) = false ∧ ((nS : Int) != (nL : Int)) = true))) := by
    by_cases e1 : outs.length = (lyt lys (lys.length - 1)).length
    · refine Or.inr ⟨by simp; omega, ?_⟩
      by_cases e2 : Rs.length = lys.length
      · refine Or.inr ⟨by simp; omega, ?_⟩
        have e3 : ¬ Ls.length = lys.length := fun h => hno' ⟨hF, e1, e2, h⟩
        simp; omega
      · exact Or.inl (by simp; omega)
    · exact Or.inl (by simp; omega)
  obtain ⟨nq, hnq⟩ : ∃ nq, nq = (lyt lys (lys.length - 1)).length := ⟨_, rfl⟩
  obtain ⟨nk, hnk⟩ : ∃ nk, nk = lys.length - 1 := ⟨_, rfl⟩
  rw [← hnq] at hdec HX1
  rw [← hnk] at HX1
  have hsub : IntKind.i64.wrap ((nL : Int) - 1) = (nk : Int) := by rw [IntKind.wrap_i64]; omega
  have hkl : nk < nL := by omega
  have hnz : ¬ (nk : Int) < 0 := by omega
  have hkl2 : (nk : Int) < (nL : Int) := by omega
  rw [← hnL, ← hno, ← hnR, ← hnS]
  clear hnL hno hnR hnS hW1 hG hL hs1 hs2 hz1 hb1 hB hl hno' hF hnq hnk hS hGC h8 hx1
  rcases hdec with t1 | ⟨t1, t2 | ⟨t2, t3⟩⟩
  all_goals
    go_enter Tryz.func6, Tryz.ntmps6
    go_wp2_with fail
    rw [← HW1.out]
    refine HFO.out.mono ?_
    rintro e w2 ⟨rfl, hb2⟩
    obtain ⟨⟨k0, k1⟩, k2, k3⟩ := HCC.out w2 hb2
    have x1 := HX1.out w2 (HBW.out w2 hb2)
    have HE := hid (HBW.out w2 hb2)
    rw [HGE.out] at k0 k1
    rw [HLE.out] at k2 k3
    clear hb2
    go_wp2_with fail
    go_ret3
    exact ⟨rfl, HE.out⟩

end Go.Proofs.YtaapbopcfpihbabGreatDoor
