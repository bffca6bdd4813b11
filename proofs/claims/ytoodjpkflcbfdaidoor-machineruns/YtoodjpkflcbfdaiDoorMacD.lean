/- attestref6: tell, reckoned. -/
import Derived.Test.YtoodjpkflcbfdaiDoorMacC
namespace Go.Proofs.YtoodjpkflcbfdaiDoor
open Go.RowKit

theorem Tryd.infoCel : (Tryd.prog.info? 67).map (fun i => (i.zero, i.size, i.bytes)) = some (some (.agg #[.int .i64 0, .int .i64 0]), 2, 16) := by kernel_rfl

set_option maxRecDepth 100000 in
set_option maxHeartbeats 1000000 in
theorem rtell_any (N M base p : Nat) (s : RM) (x y : Int) (w : World) (h : MacAt M base p s w) (hN : N ≤ M) (hNb : N ≤ base) (hp3 : 3 ≤ p) (hp4 : p ≤ 2147483647) (hy1 : -9223372036854775808 ≤ y) (hy2 : y ≤ 9223372036854775807) (hl : s.cs.length ≤ 999999) (h3 : s.err = 0 → s.slot < 3) :
    Calls Tryd.prog 46 #[.pointer (some ⟨M, 0, none⟩), .int .i64 x, .int .i64 y] w fun e w' => e = .returned (.tuple #[]) ∧ MacAt M base p (s.tell p x y) w' ∧ FrM N w w' := by
  obtain ⟨i0, hi0, hz0, hz1, hz2⟩ := info_parts Tryd.infoCel
  obtain ⟨hb, v, hr, hc⟩ := h
  have c0 : w.cell? ⟨M, 0, none⟩ = some (.int .i64 p) := hr.cell (i := 0) (by decide)
  have c13 : w.cell? ⟨M, 13, none⟩ = some (.int .i64 s.err) := hr.cell (i := 13) (by decide)
  have c1 : w.cell? ⟨M, 1, none⟩ = some v := hr.cell (i := 1) (by decide)
  have f := hr.frozen
  have HI := hid (⟨hb, v, hr, hc⟩ : MacAt M base p s w)
  have HR := hid hr
  have HC := hid hc
  have HG : Hid (w.grownBy (w.setCell ⟨M, 13, none⟩ (.int .i64 7)) (some M)) := gbM (gb_same w M)
  have HF := hid (rfind_any M base v s.cs x w c1 hc (by omega))
  have HO := hid (rof_any p y w hp3 hp4 hy1 hy2)
  obtain ⟨e, he⟩ : ∃ e, e = s.err := ⟨_, rfl⟩
  rw [← he] at c13 h3
  have HE := hid he
  obtain ⟨L, hL⟩ : ∃ L, L = s.tell p x y := ⟨_, rfl⟩
  rw [← hL]
  have HL := hid hL
  obtain ⟨z, hz⟩ : ∃ z, z = y % (p : Int) := ⟨_, rfl⟩
  rw [← hz] at HO
  have HZ := hid hz
  clear hr hc he hL hz
  by_cases h0 : e = 0
  · subst h0
    have hs3 := h3 rfl
    rcases finz_cases s.cs x with hm | ⟨i, hi, hil, hix⟩
    · rw [hm] at HF
      have HX : Hid (L = ({ s with cs := s.cs ++ [(x, z)] } : RM).shown x z) := by
        unfold Hid
        rw [HL.out, HZ.out]
        unfold RM.tell
        rw [if_neg (by rw [← HE.out]; simp), if_neg (by rw [hm]; intro hh; exact absurd hh.1 (by decide)), if_pos (by rw [hm]; decide)]
      obtain ⟨a, cap, rfl⟩ := HC.out.form
      obtain ⟨n, hn⟩ : ∃ n, n = s.cs.length := ⟨_, rfl⟩
      rw [← hn] at c1 hl
      have HNE := hid hn
      have HCR : Hid (w.ownsRow base 67 2 (.slice a n cap) n (celv s.cs)) := by unfold Hid; rw [hn]; exact HC.out
      rw [← hn] at HR
      clear hm hn h3
      go_enter Tryd.func46, Tryd.ntmps46
      go_wp2_with fail
      refine HO.out.mono ?_
      rintro e w1 ⟨rfl, rfl⟩
      go_wp2_with fail
      refine HF.out.mono ?_
      rintro e w1 ⟨rfl, rfl⟩
      have hba : Below w1.heap.size w1 (w1.alloc (.cells #[.int .i64 x, .int .i64 z] 67)) := (Below.refl _ _).alloc (Nat.le_refl _) _
      have HO2 : Hid ((w1.alloc (.cells #[.int .i64 x, .int .i64 z] 67)).ownsRow base 67 2 (.slice a n cap) n (celv s.cs)) := HCR.out.alloc _
      have HBA := hid hba
      clear hba
      go_wp2_with (at_builtin; refine wpList_append_own _ rfl _ _ 29 rfl base 67 i0 _ 2 16 Tryd.underlying29 hi0 hz0 hz1 hz2 rfl (by decide) _ n (celv s.cs) rfl HO2.out ⟨w1.heap.size, 0, none⟩ 1 1 [.int .i64 x, .int .i64 z] rfl rfl ?c1 ?c2 ?c3 ?c4 ?c5 ?_)
      case c1 =>
        intro j u hj
        match j, hj with
        | 0, hj => simp at hj; subst hj; simp [Addr.add]
        | 1, hj => simp at hj; subst hj; simp [Addr.add]
      case c2 => intro u hu; simp at hu; rcases hu with rfl | rfl <;> rfl
      case c3 => unfold maxLen; omega
      case c4 => omega
      case c5 => simp; omega
      intro v' w2 ho2 hg2 _
      have ho3 : w2.ownsRow base 67 2 v' (s.cs ++ [(x, z)]).length (celv (s.cs ++ [(x, z)])) := by
        rw [celv_app, List.length_append, ← HNE.out]
        exact ho2
      have hown : ∀ k, (Value.slice a n cap).ownBlock = some k → base ≤ k := fun k hk => (World.ownsRow.lt HCR.out k hk).1
      have hkeep : ∀ k, k < base → k < w1.heap.size → w2.heap[k]? = w1.heap[k]? := fun k hk hkw => (hg2.block k (Nat.lt_of_lt_of_le hkw HBA.out.size) (fun e => by have := hown k e.symm; omega)).trans (HBA.out.block k hkw)
      have hMl := HR.out.lt
      have hr2 := HR.out.of_block ((hg2.block M (Nat.lt_of_lt_of_le hMl HBA.out.size) (fun e => HC.out.ne HR.out (by rw [← HNE.out]; exact e.symm))).trans (HBA.out.block M hMl))
      have hbe2 : Below base w1 w2 := ⟨hg2.os.trans HBA.out.os, hg2.tape.trans HBA.out.tape, hg2.output.trans HBA.out.output, Nat.le_trans HBA.out.size hg2.size, fun k hk => hkeep k hk (by omega)⟩
      obtain ⟨a', cap', hv'⟩ := CelR.form ho3
      obtain ⟨n', hn'⟩ : ∃ n', n' = (s.cs ++ [(x, z)]).length := ⟨_, rfl⟩
      rw [← hn'] at hv'
      subst hv'
      have HR3 : Hid ((w2.setCell ⟨M, 1, none⟩ (.slice a' n' cap')).rowIs M 75 14 (rmv p (.slice a' n' cap') { s with cs := s.cs ++ [(x, z)] })) := (hr2.set 1 _).congr (rmv_cs p _ _ s _)
      have HC3 : Hid (CelR base (w2.setCell ⟨M, 1, none⟩ (.slice a' n' cap')) (.slice a' n' cap') (s.cs ++ [(x, z)])) := CelR.kept ho3 hr2 (gbM (gb_same w2 M))
      have hkm : KM w1 w2 := ⟨hbe2.size, fun b cs t f e h1 h2 => by
        have hl1 := (Array.getElem?_eq_some_iff.1 e).1
        have e2 := (HBA.out.block b hl1).trans e
        refine (hg2.block b (Nat.lt_of_lt_of_le hl1 HBA.out.size) (fun hh => ?_)).trans (HBA.out.block b hl1)
        rcases HO2.out.2 with ⟨e3, _⟩ | ⟨g3, cap3, cur3, e3, _, hg3, _⟩
        · rw [e3] at hh; cases hh
        · rw [e3] at hh
          simp [Value.ownBlock] at hh
          subst hh
          rw [e2] at hg3
          injection hg3 with hg3
          injection hg3 with _ hg3 _
          exact h2 hg3⟩
      have HB3 : Hid (FrM N w1 (w2.setCell ⟨M, 1, none⟩ (.slice a' n' cap')) ∧ base ≤ (w2.setCell ⟨M, 1, none⟩ (.slice a' n' cap')).heap.size) := ⟨FrM.trans ⟨hbe2.mono (by omega), hkm⟩ (FrM.gb (gbM (gb_same w2 M)) hN hr2), by have := hbe2.size; simp [World.setCell]; omega⟩
      have k1 : w2.cell? ⟨M, 1, none⟩ = some (.slice a n cap) := hr2.cell (i := 1) (by decide)
      have kf := hr2.frozen
      have HSH := hid (rshown_any M p (.slice a' n' cap') { s with cs := s.cs ++ [(x, z)] } x z (w2.setCell ⟨M, 1, none⟩ (.slice a' n' cap')) HR3.out hs3)
      clear ho2 hg2 ho3 hown hkeep hr2 hbe2 hn' HO2 HBA HO HF hkm hMl
      go_wp2_with fail
      refine HSH.out.mono ?_
      rintro e w4 ⟨rfl, hr4, hg4, hz4⟩
      have HE4 : Hid (MacAt M base p (({ s with cs := s.cs ++ [(x, z)] } : RM).shown x z) w4 ∧ FrM N w1 w4) :=
        ⟨⟨by rw [hz4]; exact HB3.out.2, _, hr4, HC3.out.kept HR3.out hg4⟩, HB3.out.1.trans (FrM.gb hg4 hN HR3.out)⟩
      clear hr4 hg4 hz4 HSH
      go_wp2_with fail
      go_end0
      rw [HX.out]
      exact ⟨rfl, HE4.out⟩
    · rw [hi] at HF
      obtain ⟨g, cap, hv, hgb, d1, d2⟩ := HC.out.at hil
      obtain ⟨n, hn⟩ : ∃ n, n = s.cs.length := ⟨_, rfl⟩
      rw [← hn] at hv hil hl
      subst hv
      obtain ⟨u, hu⟩ : ∃ u, u = (cat s.cs i).2 := ⟨_, rfl⟩
      rw [← hu] at d2
      have hn0 : ¬ (i : Int) < 0 := by omega
      have hn1 : (0 : Int) ≤ (i : Int) := by omega
      have hin : (i : Int) < (n : Int) := by omega
      by_cases hzu : u = z
      · have hne : (u != z) = false := by simp [hzu]
        have HX : Hid (L = s.shown x z) := by
          unfold Hid
          rw [HL.out, HZ.out]
          unfold RM.tell
          rw [if_neg (by rw [← HE.out]; simp), if_neg (by rw [hi, Int.toNat_natCast, ← hu, hzu, HZ.out]; simp), if_neg (by rw [hi]; omega)]
        have HSH := hid (rshown_any M p (.slice (some ⟨g, 0, none⟩) n cap) s x z w HR.out hs3)
        clear hi hix d1 hn hu h3 hzu
        go_enter Tryd.func46, Tryd.ntmps46
        go_wp2_with fail
        refine HO.out.mono ?_
        rintro e w1 ⟨rfl, rfl⟩
        go_wp2_with fail
        refine HF.out.mono ?_
        rintro e w1 ⟨rfl, rfl⟩
        go_wp2_with fail
        refine HSH.out.mono ?_
        rintro e w2 ⟨rfl, hr2, hg2, hz2⟩
        have HE2 : Hid (MacAt M base p (s.shown x z) w2 ∧ FrM N w1 w2) := ⟨⟨by omega, _, hr2, HC.out.kept HR.out hg2⟩, FrM.gb hg2 hN HR.out⟩
        clear hr2 hg2 hz2 HSH HF
        go_wp2_with fail
        go_end0
        rw [HX.out]
        exact ⟨rfl, HE2.out⟩
      · have hne : (u != z) = true := by simp [hzu]
        have HX : Hid (L = { s with err := 7 }) := by
          unfold Hid
          rw [HL.out]
          unfold RM.tell
          rw [if_neg (by rw [← HE.out]; simp), if_pos ⟨by rw [hi]; omega, by rw [hi, Int.toNat_natCast, ← hu, ← HZ.out]; exact hzu⟩]
        clear hi hix d1 hn hu h3 hzu
        go_enter Tryd.func46, Tryd.ntmps46
        go_wp2_with fail
        refine HO.out.mono ?_
        rintro e w1 ⟨rfl, rfl⟩
        go_wp2_with fail
        refine HF.out.mono ?_
        rintro e w1 ⟨rfl, rfl⟩
        go_wp2_with fail
        (try simp only [Exit.inBlock, Exit.then])
        refine bodyPost_ret (results_none rfl _ _ _) rfl ?_
        rw [HX.out]
        exact ⟨rfl, ⟨by simpa [World.setCell] using hb, _, (HR.out.set 13 _).congr (rmv_err p _ s 7), HC.out.kept HR.out HG.out⟩, FrM.gb HG.out hN HR.out⟩
  · have h1 : (e != 0) = true := by simp [h0]
    have HX : Hid (L = s) := by unfold Hid; rw [HL.out]; unfold RM.tell; rw [if_pos (by rw [← HE.out]; exact h0)]
    clear h0 h3
    go_enter Tryd.func46, Tryd.ntmps46
    go_wp2_with fail
    (try simp only [Exit.inBlock, Exit.then])
    refine bodyPost_ret (results_none rfl _ _ _) rfl ?_
    rw [HX.out]
    exact ⟨rfl, HI.out, FrM.refl _ _⟩

/-- what comes of two by an operation, and what becomes of the machine -/
def rkn (p : Nat) (op x y : Int) : Int := if op = 1 then (x + y) % p else if op = 2 then (x - y) % p else if op = 3 then x * y % p else if op = 4 then x * (invn p y : Int) % p else if x = y then 1 else 0
def RM.rck (s : RM) (op y : Int) : RM := if op = 4 then s.must (y != 0) else s

set_option maxRecDepth 100000 in
set_option maxHeartbeats 1000000 in
theorem rreck_any (N M base p : Nat) (s : RM) (op x y : Int) (w : World) (h : MacAt M base p s w) (hN : N ≤ M) (hp3 : 3 ≤ p) (hp4 : p ≤ 2147483647) (hop : op = 1 ∨ op = 2 ∨ op = 3 ∨ op = 4 ∨ op = 6) (hx1 : 0 ≤ x) (hx2 : x < p) (hy1 : 0 ≤ y) (hy2 : y < p) :
    Calls Tryd.prog 45 #[.pointer (some ⟨M, 0, none⟩), .int .i64 op, .int .i64 x, .int .i64 y] w fun e w' => e = .returned (.int .i64 (rkn p op x y)) ∧ MacAt M base p (s.rck op y) w' ∧ FrM N w w' := by
  have c0 : w.cell? ⟨M, 0, none⟩ = some (.int .i64 p) := by obtain ⟨_, v, hr, _⟩ := h; exact hr.cell (i := 0) (by decide)
  have HA := hid (radd_any p x y w hp3 hp4 (by omega) (by omega) (by omega) (by omega))
  have HS := hid (rsub_any p x y w hp3 hp4 (by omega) (by omega) (by omega) (by omega))
  have HMU := hid (rmul_any p x y w hp3 hp4 (by omega) (by omega) (by omega) (by omega))
  have HD := hid (fun W => rdiv_any p x y W hp3 hp4 (by omega) (by omega) (by omega) (by omega))
  have HM := hid (fun b => rmust_any N M base p s b w h hN)
  have HI := hid h
  have HF := hid (FrM.refl N w)
  obtain ⟨z, hz⟩ : ∃ z, z = rkn p op x y := ⟨_, rfl⟩
  obtain ⟨s', hs'⟩ : ∃ s', s' = s.rck op y := ⟨_, rfl⟩
  rw [← hz, ← hs']
  have HZ := hid hz
  have HS' := hid hs'
  clear h hz hs'
  rcases hop with rfl | rfl | rfl | rfl | rfl
  · go_enter Tryd.func45, Tryd.ntmps45
    go_wp2_with fail
    refine HA.out.mono ?_
    rintro e w1 ⟨rfl, rfl⟩
    go_wp2_with fail
    go_ret
    rw [HZ.out, HS'.out]
    exact ⟨rfl, HI.out, HF.out⟩
  · go_enter Tryd.func45, Tryd.ntmps45
    go_wp2_with fail
    refine HS.out.mono ?_
    rintro e w1 ⟨rfl, rfl⟩
    go_wp2_with fail
    go_ret
    rw [HZ.out, HS'.out]
    exact ⟨rfl, HI.out, HF.out⟩
  · go_enter Tryd.func45, Tryd.ntmps45
    go_wp2_with fail
    refine HMU.out.mono ?_
    rintro e w1 ⟨rfl, rfl⟩
    go_wp2_with fail
    go_ret
    rw [HZ.out, HS'.out]
    exact ⟨rfl, HI.out, HF.out⟩
  · obtain ⟨bb, hbb⟩ : ∃ bb, bb = (y != 0) := ⟨_, rfl⟩
    have HM2 := hid (HM.out bb)
    rw [hbb] at HM2
    go_enter Tryd.func45, Tryd.ntmps45
    go_wp2_with fail
    refine HM2.out.mono ?_
    rintro e w1 ⟨rfl, hm1, hf1⟩
    have d0 : w1.cell? ⟨M, 0, none⟩ = some (.int .i64 p) := by obtain ⟨_, v, hr, _⟩ := hm1; exact hr.cell (i := 0) (by decide)
    have HX : Hid (MacAt M base p (s.must (y != 0)) w1 ∧ FrM N w w1) := ⟨hm1, hf1⟩
    clear hm1 hf1 HM2 HM
    go_wp2_with fail
    refine (HD.out _).mono ?_
    rintro e w2 ⟨rfl, rfl⟩
    go_wp2_with fail
    go_ret
    rw [HZ.out, HS'.out]
    exact ⟨rfl, HX.out⟩
  · by_cases hxy : x = y
    · have hb : (x == y) = true := by simp [hxy]
      have HE : Hid (z = 1) := by unfold Hid; rw [HZ.out, rkn, if_neg (by decide), if_neg (by decide), if_neg (by decide), if_neg (by decide), if_pos hxy]
      clear hxy
      go_enter Tryd.func45, Tryd.ntmps45
      go_wp2_with fail
      go_ret
      rw [HE.out, HS'.out]
      exact ⟨rfl, HI.out, HF.out⟩
    · have hb : (x == y) = false := by simp [hxy]
      have HE : Hid (z = 0) := by unfold Hid; rw [HZ.out, rkn, if_neg (by decide), if_neg (by decide), if_neg (by decide), if_neg (by decide), if_neg hxy]
      clear hxy
      go_enter Tryd.func45, Tryd.ntmps45
      go_wp2_with fail
      go_ret
      rw [HE.out, HS'.out]
      exact ⟨rfl, HI.out, HF.out⟩

end Go.Proofs.YtoodjpkflcbfdaiDoor
