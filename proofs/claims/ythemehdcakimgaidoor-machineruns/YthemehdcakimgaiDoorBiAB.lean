/- attestref6: tell, reckoned. attestref6.Do: what stands. attestref6.Do. -/
import Derived.Test.YthemehdcakimgaiDoorBiAA
namespace Go.Proofs.YthemehdcakimgaiDoor
open Go.RowKit

theorem Tryd.infoCel : (Tryd.prog.info? 67).map (fun i => (i.zero, i.size, i.bytes)) = some (some (.agg #[.int .i64 0, .int .i64 0]), 2, 16) := by kernel_rfl

set_option maxRecDepth 100000 in
set_option maxHeartbeats 1000000 in
theorem rtell_any (N M base p : Nat) (s : RM) (x y : Int) (w : World) (h : MacAt M base p s w) (hN : N ≤ M) (hNb : N ≤ base) (hp3 : 3 ≤ p) (hp4 : p ≤ 2147483647) (hy1 : -9223372036854775808 ≤ y) (hy2 : y ≤ 9223372036854775807) (hl : s.cs.length ≤ 999999) (h3 : s.err = 0 → s.slot < 3) :
    Calls Tryd.prog 46 #[.pointer (some ⟨M, 0, none⟩), .int .i64 x, .int .i64 y] w fun e w' => e = .returned (.tuple #[]) ∧ MacAt M base p (s.tell p x y) w' ∧ FrM N w w' := by
  obtain ⟨i0, hi0, hz0, hz1, hz2⟩ := info_parts Tryd.infoCel
  obtain ⟨hb, v, hr, hc⟩ := h
  have c0 : w.cell? ⟨M, 0, none⟩ = some (.int .i64 p) := hr.cell (i := 0) (by decide)
  have c13 : w.cell? ⟨M, 13, none⟩ = some (.int .i64 s.err) := hr.cell (i := 13) (by decide)
  have c1 : w.cell? ⟨M, 1, none⟩ = some v := hr.cell (i := 1) (by decide)
  have f := hr.frozen
  have HI := hid (⟨hb, v, hr, hc⟩ : MacAt M base p s w)
  have HR := hid hr
  have HC := hid hc
  have HG : Hid (w.grownBy (w.setCell ⟨M, 13, none⟩ (.int .i64 7)) (some M)) := gbM (gb_same w M)
  have HF := hid (rfind_any M base v s.cs x w c1 hc (by omega))
  have HO := hid (rof_any p y w hp3 hp4 hy1 hy2)
  obtain ⟨e, he⟩ : ∃ e, e = s.err := ⟨_, rfl⟩
  rw [← he] at c13 h3
  have HE := hid he
  obtain ⟨L, hL⟩ : ∃ L, L = s.tell p x y := ⟨_, rfl⟩
  rw [← hL]
  have HL := hid hL
  obtain ⟨z, hz⟩ : ∃ z, z = y % (p : Int) := ⟨_, rfl⟩
  rw [← hz] at HO
  have HZ := hid hz
  clear hr hc he hL hz
  by_cases h0 : e = 0
  · subst h0
    have hs3 := h3 rfl
    rcases finz_cases s.cs x with hm | ⟨i, hi, hil, hix⟩
    · rw [hm] at HF
      have HX : Hid (L = ({ s with cs := s.cs ++ [(x, z)] } : RM).shown x z) := by
        unfold Hid
        rw [HL.out, HZ.out]
        unfold RM.tell
        rw [if_neg (by rw [← HE.out]; simp), if_neg (by rw [hm]; intro hh; exact absurd hh.1 (by decide)), if_pos (by rw [hm]; decide)]
      obtain ⟨a, cap, rfl⟩ := HC.out.form
      obtain ⟨n, hn⟩ : ∃ n, n = s.cs.length := ⟨_, rfl⟩
      rw [← hn] at c1 hl
      have HNE := hid hn
      have HCR : Hid (w.ownsRow base 67 2 (.slice a n cap) n (celv s.cs)) := by unfold Hid; rw [hn]; exact HC.out
      rw [← hn] at HR
      clear hm hn h3
      go_enter Tryd.func46, Tryd.ntmps46
      go_wp2_with fail
      refine HO.out.mono ?_
      rintro e w1 ⟨rfl, rfl⟩
      go_wp2_with fail
      refine HF.out.mono ?_
      rintro e w1 ⟨rfl, rfl⟩
      have hba : Below w1.heap.size w1 (w1.alloc (.cells #[.int .i64 x, .int .i64 z] 67)) := (Below.refl _ _).alloc (Nat.le_refl _) _
      have HO2 : Hid ((w1.alloc (.cells #[.int .i64 x, .int .i64 z] 67)).ownsRow base 67 2 (.slice a n cap) n (celv s.cs)) := HCR.out.alloc _
      have HBA := hid hba
      clear hba
      go_wp2_with (at_builtin; refine wpList_append_own _ rfl _ _ 29 rfl base 67 i0 _ 2 16 Tryd.underlying29 hi0 hz0 hz1 hz2 rfl (by decide) _ n (celv s.cs) rfl HO2.out ⟨w1.heap.size, 0, none⟩ 1 1 [.int .i64 x, .int .i64 z] rfl rfl ?c1 ?c2 ?c3 ?c4 ?c5 ?_)
      case c1 =>
        intro j u hj
        match j, hj with
        | 0, hj => simp at hj; subst hj; simp [Addr.add]
        | 1, hj => simp at hj; subst hj; simp [Addr.add]
      case c2 => intro u hu; simp at hu; rcases hu with rfl | rfl <;> rfl
      case c3 => unfold maxLen; omega
      case c4 => omega
      case c5 => simp; omega
      intro v' w2 ho2 hg2 _
      have ho3 : w2.ownsRow base 67 2 v' (s.cs ++ [(x, z)]).length (celv (s.cs ++ [(x, z)])) := by
        rw [celv_app, List.length_append, ← HNE.out]
        exact ho2
      have hown : ∀ k, (Value.slice a n cap).ownBlock = some k → base ≤ k := fun k hk => (World.ownsRow.lt HCR.out k hk).1
      have hkeep : ∀ k, k < base → k < w1.heap.size → w2.heap[k]? = w1.heap[k]? := fun k hk hkw => (hg2.block k (Nat.lt_of_lt_of_le hkw HBA.out.size) (fun e => by have := hown k e.symm; omega)).trans (HBA.out.block k hkw)
      have hMl := HR.out.lt
      have hr2 := HR.out.of_block ((hg2.block M (Nat.lt_of_lt_of_le hMl HBA.out.size) (fun e => HC.out.ne HR.out (by rw [← HNE.out]; exact e.symm))).trans (HBA.out.block M hMl))
      have hbe2 : Below base w1 w2 := ⟨hg2.os.trans HBA.out.os, hg2.tape.trans HBA.out.tape, hg2.output.trans HBA.out.output, Nat.le_trans HBA.out.size hg2.size, fun k hk => hkeep k hk (by omega)⟩
      obtain ⟨a', cap', hv'⟩ := CelR.form ho3
      obtain ⟨n', hn'⟩ : ∃ n', n' = (s.cs ++ [(x, z)]).length := ⟨_, rfl⟩
      rw [← hn'] at hv'
      subst hv'
      have HR3 : Hid ((w2.setCell ⟨M, 1, none⟩ (.slice a' n' cap')).rowIs M 75 14 (rmv p (.slice a' n' cap') { s with cs := s.cs ++ [(x, z)] })) := (hr2.set 1 _).congr (rmv_cs p _ _ s _)
      have HC3 : Hid (CelR base (w2.setCell ⟨M, 1, none⟩ (.slice a' n' cap')) (.slice a' n' cap') (s.cs ++ [(x, z)])) := CelR.kept ho3 hr2 (gbM (gb_same w2 M))
      have hkm : KM w1 w2 := ⟨hbe2.size, fun b cs t f e h1 h2 => by
        have hl1 := (Array.getElem?_eq_some_iff.1 e).1
        have e2 := (HBA.out.block b hl1).trans e
        refine (hg2.block b (Nat.lt_of_lt_of_le hl1 HBA.out.size) (fun hh => ?_)).trans (HBA.out.block b hl1)
        rcases HO2.out.2 with ⟨e3, _⟩ | ⟨g3, cap3, cur3, e3, _, hg3, _⟩
        · rw [e3] at hh; cases hh
        · rw [e3] at hh
          simp [Value.ownBlock] at hh
          subst hh
          rw [e2] at hg3
          injection hg3 with hg3
          injection hg3 with _ hg3 _
          exact h2 hg3⟩
      have HB3 : Hid (FrM N w1 (w2.setCell ⟨M, 1, none⟩ (.slice a' n' cap')) ∧ base ≤ (w2.setCell ⟨M, 1, none⟩ (.slice a' n' cap')).heap.size) := ⟨FrM.trans ⟨hbe2.mono (by omega), hkm⟩ (FrM.gb (gbM (gb_same w2 M)) hN hr2), by have := hbe2.size; simp [World.setCell]; omega⟩
      have k1 : w2.cell? ⟨M, 1, none⟩ = some (.slice a n cap) := hr2.cell (i := 1) (by decide)
      have kf := hr2.frozen
      have HSH := hid (rshown_any M p (.slice a' n' cap') { s with cs := s.cs ++ [(x, z)] } x z (w2.setCell ⟨M, 1, none⟩ (.slice a' n' cap')) HR3.out hs3)
      clear ho2 hg2 ho3 hown hkeep hr2 hbe2 hn' HO2 HBA HO HF hkm hMl
      go_wp2_with fail
      refine HSH.out.mono ?_
      rintro e w4 ⟨rfl, hr4, hg4, hz4⟩
      have HE4 : Hid (MacAt M base p (({ s with cs := s.cs ++ [(x, z)] } : RM).shown x z) w4 ∧ FrM N w1 w4) :=
        ⟨⟨by rw [hz4]; exact HB3.out.2, _, hr4, HC3.out.kept HR3.out hg4⟩, HB3.out.1.trans (FrM.gb hg4 hN HR3.out)⟩
      clear hr4 hg4 hz4 HSH
      go_wp2_with fail
      go_end0
      rw [HX.out]
      exact ⟨rfl, HE4.out⟩
    · rw [hi] at HF
      obtain ⟨g, cap, hv, hgb, d1, d2⟩ := HC.out.at hil
      obtain ⟨n, hn⟩ : ∃ n, n = s.cs.length := ⟨_, rfl⟩
      rw [← hn] at hv hil hl
      subst hv
      obtain ⟨u, hu⟩ : ∃ u, u = (cat s.cs i).2 := ⟨_, rfl⟩
      rw [← hu] at d2
      have hn0 : ¬ (i : Int) < 0 := by omega
      have hn1 : (0 : Int) ≤ (i : Int) := by omega
      have hin : (i : Int) < (n : Int) := by omega
      by_cases hzu : u = z
      · have hne : (u != z) = false := by simp [hzu]
        have HX : Hid (L = s.shown x z) := by
          unfold Hid
          rw [HL.out, HZ.out]
          unfold RM.tell
          rw [if_neg (by rw [← HE.out]; simp), if_neg (by rw [hi, Int.toNat_natCast, ← hu, hzu, HZ.out]; simp), if_neg (by rw [hi]; omega)]
        have HSH := hid (rshown_any M p (.slice (some ⟨g, 0, none⟩) n cap) s x z w HR.out hs3)
        clear hi hix d1 hn hu h3 hzu
        go_enter Tryd.func46, Tryd.ntmps46
        go_wp2_with fail
        refine HO.out.mono ?_
        rintro e w1 ⟨rfl, rfl⟩
        go_wp2_with fail
        refine HF.out.mono ?_
        rintro e w1 ⟨rfl, rfl⟩
        go_wp2_with fail
        refine HSH.out.mono ?_
        rintro e w2 ⟨rfl, hr2, hg2, hz2⟩
        have HE2 : Hid (MacAt M base p (s.shown x z) w2 ∧ FrM N w1 w2) := ⟨⟨by omega, _, hr2, HC.out.kept HR.out hg2⟩, FrM.gb hg2 hN HR.out⟩
        clear hr2 hg2 hz2 HSH HF
        go_wp2_with fail
        go_end0
        rw [HX.out]
        exact ⟨rfl, HE2.out⟩
      · have hne : (u != z) = true := by simp [hzu]
        have HX : Hid (L = { s with err := 7 }) := by
          unfold Hid
          rw [HL.out]
          unfold RM.tell
          rw [if_neg (by rw [← HE.out]; simp), if_pos ⟨by rw [hi]; omega, by rw [hi, Int.toNat_natCast, ← hu, ← HZ.out]; exact hzu⟩]
        clear hi hix d1 hn hu h3 hzu
        go_enter Tryd.func46, Tryd.ntmps46
        go_wp2_with fail
        refine HO.out.mono ?_
        rintro e w1 ⟨rfl, rfl⟩
        go_wp2_with fail
        refine HF.out.mono ?_
        rintro e w1 ⟨rfl, rfl⟩
        go_wp2_with fail
        (try simp only [Exit.inBlock, Exit.then])
        refine bodyPost_ret (results_none rfl _ _ _) rfl ?_
        rw [HX.out]
        exact ⟨rfl, ⟨by simpa [World.setCell] using hb, _, (HR.out.set 13 _).congr (rmv_err p _ s 7), HC.out.kept HR.out HG.out⟩, FrM.gb HG.out hN HR.out⟩
  · have h1 : (e != 0) = true := by simp [h0]
    have HX : Hid (L = s) := by unfold Hid; rw [HL.out]; unfold RM.tell; rw [if_pos (by rw [← HE.out]; exact h0)]
    clear h0 h3
    go_enter Tryd.func46, Tryd.ntmps46
    go_wp2_with fail
    (try simp only [Exit.inBlock, Exit.then])
    refine bodyPost_ret (results_none rfl _ _ _) rfl ?_
    rw [HX.out]
    exact ⟨rfl, HI.out, FrM.refl _ _⟩

/-- what comes of two by an operation, and what becomes of the machine -/
def rkn (p : Nat) (op x y : Int) : Int := if op = 1 then (x + y) % p else if op = 2 then (x - y) % p else if op = 3 then x * y % p else if op = 4 then x * (invn p y : Int) % p else if x = y then 1 else 0
def RM.rck (s : RM) (op y : Int) : RM := if op = 4 then s.must (y != 0) else s

set_option maxRecDepth 100000 in
set_option maxHeartbeats 1000000 in
theorem rreck_any (N M base p : Nat) (s : RM) (op x y : Int) (w : World) (h : MacAt M base p s w) (hN : N ≤ M) (hp3 : 3 ≤ p) (hp4 : p ≤ 2147483647) (hop : op = 1 ∨ op = 2 ∨ op = 3 ∨ op = 4 ∨ op = 6) (hx1 : 0 ≤ x) (hx2 : x < p) (hy1 : 0 ≤ y) (hy2 : y < p) :
    Calls Tryd.prog 45 #[.pointer (some ⟨M, 0, none⟩), .int .i64 op, .int .i64 x, .int .i64 y] w fun e w' => e = .returned (.int .i64 (rkn p op x y)) ∧ MacAt M base p (s.rck op y) w' ∧ FrM N w w' := by
  have c0 : w.cell? ⟨M, 0, none⟩ = some (.int .i64 p) := by obtain ⟨_, v, hr, _⟩ := h; exact hr.cell (i := 0) (by decide)
  have HA := hid (radd_any p x y w hp3 hp4 (by omega) (by omega) (by omega) (by omega))
  have HS := hid (rsub_any p x y w hp3 hp4 (by omega) (by omega) (by omega) (by omega))
  have HMU := hid (rmul_any p x y w hp3 hp4 (by omega) (by omega) (by omega) (by omega))
  have HD := hid (fun W => rdiv_any p x y W hp3 hp4 (by omega) (by omega) (by omega) (by omega))
  have HM := hid (fun b => rmust_any N M base p s b w h hN)
  have HI := hid h
  have HF := hid (FrM.refl N w)
  obtain ⟨z, hz⟩ : ∃ z, z = rkn p op x y := ⟨_, rfl⟩
  obtain ⟨s', hs'⟩ : ∃ s', s' = s.rck op y := ⟨_, rfl⟩
  rw [← hz, ← hs']
  have HZ := hid hz
  have HS' := hid hs'
  clear h hz hs'
  rcases hop with rfl | rfl | rfl | rfl | rfl
  · go_enter Tryd.func45, Tryd.ntmps45
    go_wp2_with fail
    refine HA.out.mono ?_
    rintro e w1 ⟨rfl, rfl⟩
    go_wp2_with fail
    go_ret
    rw [HZ.out, HS'.out]
    exact ⟨rfl, HI.out, HF.out⟩
  · go_enter Tryd.func45, Tryd.ntmps45
    go_wp2_with fail
    refine HS.out.mono ?_
    rintro e w1 ⟨rfl, rfl⟩
    go_wp2_with fail
    go_ret
    rw [HZ.out, HS'.out]
    exact ⟨rfl, HI.out, HF.out⟩
  · go_enter Tryd.func45, Tryd.ntmps45
    go_wp2_with fail
    refine HMU.out.mono ?_
    rintro e w1 ⟨rfl, rfl⟩
    go_wp2_with fail
    go_ret
    rw [HZ.out, HS'.out]
    exact ⟨rfl, HI.out, HF.out⟩
  · obtain ⟨bb, hbb⟩ : ∃ bb, bb = (y != 0) := ⟨_, rfl⟩
    have HM2 := hid (HM.out bb)
    rw [hbb] at HM2
    go_enter Tryd.func45, Tryd.ntmps45
    go_wp2_with fail
    refine HM2.out.mono ?_
    rintro e w1 ⟨rfl, hm1, hf1⟩
    have d0 : w1.cell? ⟨M, 0, none⟩ = some (.int .i64 p) := by obtain ⟨_, v, hr, _⟩ := hm1; exact hr.cell (i := 0) (by decide)
    have HX : Hid (MacAt M base p (s.must (y != 0)) w1 ∧ FrM N w w1) := ⟨hm1, hf1⟩
    clear hm1 hf1 HM2 HM
    go_wp2_with fail
    refine (HD.out _).mono ?_
    rintro e w2 ⟨rfl, rfl⟩
    go_wp2_with fail
    go_ret
    rw [HZ.out, HS'.out]
    exact ⟨rfl, HX.out⟩
  · by_cases hxy : x = y
    · have hb : (x == y) = true := by simp [hxy]
      have HE : Hid (z = 1) := by unfold Hid; rw [HZ.out, rkn, if_neg (by decide), if_neg (by decide), if_neg (by decide), if_neg (by decide), if_pos hxy]
      clear hxy
      go_enter Tryd.func45, Tryd.ntmps45
      go_wp2_with fail
      go_ret
      rw [HE.out, HS'.out]
      exact ⟨rfl, HI.out, HF.out⟩
    · have hb : (x == y) = false := by simp [hxy]
      have HE : Hid (z = 0) := by unfold Hid; rw [HZ.out, rkn, if_neg (by decide), if_neg (by decide), if_neg (by decide), if_neg (by decide), if_neg hxy]
      clear hxy
      go_enter Tryd.func45, Tryd.ntmps45
      go_wp2_with fail
      go_ret
      rw [HE.out, HS'.out]
      exact ⟨rfl, HI.out, HF.out⟩

end Go.Proofs.YthemehdcakimgaiDoor

namespace Go.Proofs.YthemehdcakimgaiDoor
open Go.RowKit

structure Rg where
  pc : Int
  fp : Int
  ap : Int
  rv : Int
def stv (n : Rg) (s : RM) : Nat → Value
  | 0 => .int .i64 n.pc
  | 1 => .int .i64 n.fp
  | 2 => .int .i64 n.ap
  | 3 => .int .i64 n.rv
  | 4 => .int .i64 (s.at' 0)
  | 5 => .int .i64 (s.at' 1)
  | 6 => .int .i64 (s.at' 2)
  | 7 => .int .i64 (s.is' 0)
  | 8 => .int .i64 (s.is' 1)
  | _ => .int .i64 (s.is' 2)
theorem ten {i : Nat} (h : i < 10) : i = 0 ∨ i = 1 ∨ i = 2 ∨ i = 3 ∨ i = 4 ∨ i = 5 ∨ i = 6 ∨ i = 7 ∨ i = 8 ∨ i = 9 := by omega
theorem stv_pc (n : Rg) (s : RM) (x : Int) : ∀ i, i < 10 → (if i = 0 then Value.int .i64 x else stv n s i) = stv { n with pc := x } s i := fun i hi => by
  rcases ten hi with rfl | rfl | rfl | rfl | rfl | rfl | rfl | rfl | rfl | rfl <;> simp [stv]
theorem stv_fp (n : Rg) (s : RM) (x : Int) : ∀ i, i < 10 → (if i = 1 then Value.int .i64 x else stv n s i) = stv { n with fp := x } s i := fun i hi => by
  rcases ten hi with rfl | rfl | rfl | rfl | rfl | rfl | rfl | rfl | rfl | rfl <;> simp [stv]
theorem stv_ap (n : Rg) (s : RM) (x : Int) : ∀ i, i < 10 → (if i = 2 then Value.int .i64 x else stv n s i) = stv { n with ap := x } s i := fun i hi => by
  rcases ten hi with rfl | rfl | rfl | rfl | rfl | rfl | rfl | rfl | rfl | rfl <;> simp [stv]
theorem stv_rv (n : Rg) (s : RM) (x : Int) : ∀ i, i < 10 → (if i = 3 then Value.int .i64 x else stv n s i) = stv { n with rv := x } s i := fun i hi => by
  rcases ten hi with rfl | rfl | rfl | rfl | rfl | rfl | rfl | rfl | rfl | rfl <;> simp [stv]

theorem MacAt.one {M base p O : Nat} {s : RM} {W W' : World} {cs : Array Value} {t : TypeId} {f : Nat × Nat} (h : MacAt M base p s W) (hO : W.heap[O]? = some (.cells cs t f)) (h1 : t ≠ 75) (h2 : t ≠ 67) (hs : W.heap.size ≤ W'.heap.size) (e : ∀ b, b < W.heap.size → b ≠ O → W'.heap[b]? = W.heap[b]?) : MacAt M base p s W' := by
  obtain ⟨hb, v, hr, hc⟩ := h
  have hty : ∀ {b : Nat} {c' : Array Value} {t' : TypeId} {f' : Nat × Nat}, W.heap[b]? = some (.cells c' t' f') → t' ≠ t → W'.heap[b]? = W.heap[b]? := fun {b c' t' f'} hg hne => e b (Array.getElem?_eq_some_iff.1 hg).1 (by
    rintro rfl
    rw [hO] at hg
    injection hg with hg
    injection hg with _ h3 _
    exact hne h3.symm)
  refine ⟨by omega, v, ?_, hc.1, ?_⟩
  · have hr' := hr
    obtain ⟨cs', hb', _⟩ := hr
    exact hr'.of_block (hty hb' (Ne.symm h1))
  · rcases hc.2 with hn | ⟨g, cap, cur, rfl, hbb, hg, rest⟩
    · exact .inl hn
    · exact .inr ⟨g, cap, cur, rfl, hbb, (hty hg (Ne.symm h2)).trans hg, rest⟩
theorem MacAt.below {M base p : Nat} {s : RM} {W W' : World} (h : MacAt M base p s W) (e : Below W.heap.size W W') : MacAt M base p s W' := by
  obtain ⟨hb, v, hr, hc⟩ := h
  refine ⟨Nat.le_trans hb e.size, v, hr.of_block (e.block M hr.lt), hc.1, ?_⟩
  rcases hc.2 with hn | ⟨g, cap, cur, rfl, hbb, hg, rest⟩
  · exact .inl hn
  · exact .inr ⟨g, cap, cur, rfl, hbb, (e.block g (Array.getElem?_eq_some_iff.1 hg).1).trans hg, rest⟩
theorem MacAt.get {M base p : Nat} {s : RM} {W : World} (h : MacAt M base p s W) : W.cell? ⟨M, 0, none⟩ = some (.int .i64 p) ∧ W.cell? ⟨M, 2, none⟩ = some (.int .i64 s.pc) ∧ W.cell? ⟨M, 3, none⟩ = some (.int .i64 s.fp) ∧ W.cell? ⟨M, 4, none⟩ = some (.int .i64 s.ap) ∧ W.cell? ⟨M, 5, none⟩ = some (.int .i64 s.rv) ∧ W.cell? ⟨M, 13, none⟩ = some (.int .i64 s.err) ∧ M < W.heap.size := by
  obtain ⟨_, v, hr, _⟩ := h
  exact ⟨hr.cell (i := 0) (by decide), hr.cell (i := 2) (by decide), hr.cell (i := 3) (by decide), hr.cell (i := 4) (by decide), hr.cell (i := 5) (by decide), hr.cell (i := 13) (by decide), hr.lt⟩

/-- what stands in Do -/
structure DoS (N M base p B : Nat) (s0 s : RM) (op a b c : Int) (n : Rg) (w W : World) : Prop where
  mac : MacAt M base p s W
  ins : W.heap[B]? = some (.cells #[.int .i64 op, .int .i64 a, .int .i64 b, .int .i64 c] 71 (0, 0))
  res : W.rowIs (B + 1) 49 10 (fun _ => .int .i64 0)
  nw : W.rowIs (B + 2) 49 10 (stv n s0)
  fr : FrM N w W
  hB : w.heap.size = B
  hM : M < B
  hN : N ≤ M
section
variable {N M base p B : Nat} {s0 s s' : RM} {op a b c : Int} {n : Rg} {w W W' : World}
theorem FrM.below {N : Nat} {w w' : World} (hN : N ≤ w.heap.size) (e : Below w.heap.size w w') : FrM N w w' := ⟨e.mono hN, e.size, fun b _ _ _ h _ _ => e.block b (Array.getElem?_eq_some_iff.1 h).1⟩
theorem DoS.mach (h : DoS N M base p B s0 s op a b c n w W) (hm : MacAt M base p s' W') (f : FrM N W W') : DoS N M base p B s0 s' op a b c n w W' := by
  have hr := h.res
  have hn := h.nw
  have hr' := hr
  have hn' := hn
  obtain ⟨c1, b1, _⟩ := hr
  obtain ⟨c2, b2, _⟩ := hn
  exact ⟨hm, (f.2.2 _ _ _ _ h.ins (by decide) (by decide)).trans h.ins, hr'.of_block (f.2.2 _ _ _ _ b1 (by decide) (by decide)), hn'.of_block (f.2.2 _ _ _ _ b2 (by decide) (by decide)), h.fr.trans f, h.hB, h.hM, h.hN⟩
theorem DoS.step (h : DoS N M base p B s0 s op a b c n w W) (e : Below W.heap.size W W') : DoS N M base p B s0 s op a b c n w W' :=
  h.mach (h.mac.below e) (FrM.below (by have := h.nw.lt; have := h.hN; have := h.hM; omega) e)
theorem DoS.put {n' : Rg} (h : DoS N M base p B s0 s op a b c n w W) (i : Nat) (v : Value) (hn : ∀ j, j < 10 → (if j = i then v else stv n s0 j) = stv n' s0 j) : DoS N M base p B s0 s op a b c n' w (W.setCell ⟨B + 2, i, none⟩ v) := by
  have hne : ∀ x, x ≠ B + 2 → (W.setCell ⟨B + 2, i, none⟩ v).heap[x]? = W.heap[x]? := fun x hx => Below.heap_setCell _ _ _ _ hx
  have hnw := h.nw
  have hB := h.hB
  have hM := h.hM
  have hN := h.hN
  obtain ⟨c2, b2, _⟩ := hnw
  have hsz : W.heap.size ≤ (W.setCell ⟨B + 2, i, none⟩ v).heap.size := by simp [World.setCell]
  refine ⟨h.mac.one b2 (by decide) (by decide) hsz (fun x _ hx => hne x hx), (hne _ (by omega)).trans h.ins, h.res.of_block (hne _ (by omega)), (h.nw.set i v).congr hn, ?_, h.hB, h.hM, h.hN⟩
  exact ⟨h.fr.1.setCell (p := ⟨B + 2, i, none⟩) (show N ≤ B + 2 by omega) v, Nat.le_trans h.fr.2.1 hsz, fun x cs t f e h1 h2 => (hne x (by have := (Array.getElem?_eq_some_iff.1 e).1; omega)).trans (h.fr.2.2 x cs t f e h1 h2)⟩
theorem DoS.drew (h : DoS N M base p B s0 s op a b c n w W) : DoS N M base p B s0 s op a b c n w W.drew := h.step (Below.refl _ _).drew
end

end Go.Proofs.YthemehdcakimgaiDoor

namespace Go.Proofs.YthemehdcakimgaiDoor
open Go.RowKit

theorem fourM0 {W : World} {g : Nat} {a b c d : Value} {t : TypeId} (h : W.heap[g]? = some (.cells #[a, b, c, d] t (0, 0))) : W.cell? ⟨g, 0, none⟩ = some a := by simp [World.cell?, h]
theorem fourM1 {W : World} {g : Nat} {a b c d : Value} {t : TypeId} (h : W.heap[g]? = some (.cells #[a, b, c, d] t (0, 0))) : W.cell? ⟨g, 1, none⟩ = some b := by simp [World.cell?, h]
theorem fourM2 {W : World} {g : Nat} {a b c d : Value} {t : TypeId} (h : W.heap[g]? = some (.cells #[a, b, c, d] t (0, 0))) : W.cell? ⟨g, 2, none⟩ = some c := by simp [World.cell?, h]
theorem fourM3 {W : World} {g : Nat} {a b c d : Value} {t : TypeId} (h : W.heap[g]? = some (.cells #[a, b, c, d] t (0, 0))) : W.cell? ⟨g, 3, none⟩ = some d := by simp [World.cell?, h]
theorem belM (w : World) (n : Nat) : Below w.heap.size w (w.drewN n) := ⟨rfl, rfl, rfl, Nat.le_refl _, fun _ _ => rfl⟩
theorem row_newM (w : World) (cs : Array Value) (t : TypeId) (n : Nat) (f : Nat → Value) (hn : cs.size = n) (hf : ∀ i, i < n → cs[i]? = some (f i)) : (w.alloc (.cells cs t)).rowIs w.heap.size t n f :=
  ⟨cs, heap_alloc_new w _, hn, hf⟩
/-- what Do stands on -/
structure DoP (N M base p : Nat) (s : RM) (w : World) : Prop where
  mac : MacAt M base p s w
  hN : N ≤ M
  nb : N ≤ base
  p3 : 3 ≤ p
  p4 : p ≤ 2147483647
  pc : 0 ≤ s.pc ∧ s.pc < p
  fp : 0 ≤ s.fp ∧ s.fp < p
  ap : 0 ≤ s.ap ∧ s.ap < p
  rv : 0 ≤ s.rv ∧ s.rv < p
  cs : ∀ j, j < s.cs.length → 0 ≤ (cat s.cs j).2 ∧ (cat s.cs j).2 < p
  len : s.cs.length ≤ 900000
  slot : s.slot = 0
  err : s.err = 0
/-- what a step makes of the machine -/
def RM.three (p : Nat) (s : RM) (op A B C : Int) : RM :=
  let l1 := s.look A
  let l2 := l1.1.look B
  (l2.1.rck op l2.2).tell p C (rkn p op l1.2 l2.2)
def RM.step (p : Nat) (s : RM) (op a b c : Int) : RM × Rg :=
  let A := (s.fp + a) % (p : Int)
  let B := (s.fp + b) % (p : Int)
  let C := (s.fp + c) % (p : Int)
  let n : Rg := ⟨(s.pc + 1) % (p : Int), s.fp, s.ap, s.rv⟩
  if op = 1 ∨ op = 2 ∨ op = 3 ∨ op = 4 ∨ op = 6 then (s.three p op A B C, n)
  else if op = 5 then (s.tell p A b, n)
  else if op = 7 then (((s.look A).1.look B).1.must ((s.look A).2 == ((s.look A).1.look B).2), n)
  else if op = 8 then (s, { n with pc := a % (p : Int) })
  else if op = 9 then ((s.look A).1, if (s.look A).2 = 0 then { n with pc := b % (p : Int) } else n)
  else if op = 10 then ((s.tell p s.ap s.fp).tell p ((s.ap + 1) % (p : Int)) (s.pc + 1), ⟨a % (p : Int), (s.ap + 2) % (p : Int), ((s.ap + 2) % (p : Int) + b) % (p : Int), s.rv⟩)
  else if op = 11 then
    let l1 := s.look ((s.fp - 2) % (p : Int))
    let l2 := l1.1.look ((s.fp - 1) % (p : Int))
    let l3 := l2.1.look A
    (l3.1, ⟨l2.2, l1.2, s.ap, l3.2⟩)
  else if op = 12 then (s.tell p A s.rv, n)
  else if op = 13 then ((s.look A).1.tell p (((s.ap + 2) % (p : Int) + b) % (p : Int)) (s.look A).2, n)
  else if op = 0 then ((s.look A).1, n)
  else ({ s with err := 7 }, n)
def put10 (W : World) (g : Nat) (f : Nat → Value) : World := (((((((((W.setCell ⟨g, 0, none⟩ (f 0)).setCell ⟨g, 1, none⟩ (f 1)).setCell ⟨g, 2, none⟩ (f 2)).setCell ⟨g, 3, none⟩ (f 3)).setCell ⟨g, 4, none⟩ (f 4)).setCell ⟨g, 5, none⟩ (f 5)).setCell ⟨g, 6, none⟩ (f 6)).setCell ⟨g, 7, none⟩ (f 7)).setCell ⟨g, 8, none⟩ (f 8)).setCell ⟨g, 9, none⟩ (f 9)
theorem put10_oth (W : World) (g : Nat) (f : Nat → Value) (k : Nat) (h : k ≠ g) : (put10 W g f).heap[k]? = W.heap[k]? := by
  unfold put10
  rw [Below.heap_setCell _ _ _ _ h, Below.heap_setCell _ _ _ _ h, Below.heap_setCell _ _ _ _ h, Below.heap_setCell _ _ _ _ h, Below.heap_setCell _ _ _ _ h, Below.heap_setCell _ _ _ _ h, Below.heap_setCell _ _ _ _ h, Below.heap_setCell _ _ _ _ h, Below.heap_setCell _ _ _ _ h, Below.heap_setCell _ _ _ _ h]
theorem put10_row {W : World} {g : Nat} {t : TypeId} {z : Nat → Value} (h : W.rowIs g t 10 z) (f : Nat → Value) : (put10 W g f).rowIs g t 10 f :=
  ((((((((((h.set 0 (f 0)).set 1 (f 1)).set 2 (f 2)).set 3 (f 3)).set 4 (f 4)).set 5 (f 5)).set 6 (f 6)).set 7 (f 7)).set 8 (f 8)).set 9 (f 9)).congr (fun i hi => by
    rcases ten hi with rfl | rfl | rfl | rfl | rfl | rfl | rfl | rfl | rfl | rfl <;> simp)
theorem row10_arr {W : World} {g : Nat} {t : TypeId} {f : Nat → Value} (h : W.rowIs g t 10 f) : W.heap[g]? = some (.cells #[f 0, f 1, f 2, f 3, f 4, f 5, f 6, f 7, f 8, f 9] t (0, 0)) := by
  obtain ⟨cs, hb, hn, hf⟩ := h
  rw [hb]
  congr 2
  refine Array.ext (by simpa using hn) (fun i h1 h2 => ?_)
  have hi : i < 10 := by simpa [hn] using h1
  have := hf i hi
  rw [Array.getElem?_eq_getElem h1] at this
  injection this with this
  rw [this]
  rcases ten hi with rfl | rfl | rfl | rfl | rfl | rfl | rfl | rfl | rfl | rfl <;> rfl
theorem DoS.give {N M base p B : Nat} {s0 s : RM} {op a b c : Int} {n : Rg} {w W : World} (h : DoS N M base p B s0 s op a b c n w W) : (put10 W (B + 1) (stv n s0)).heap[B + 1]? = some (.cells #[.int .i64 n.pc, .int .i64 n.fp, .int .i64 n.ap, .int .i64 n.rv, .int .i64 (s0.at' 0), .int .i64 (s0.at' 1), .int .i64 (s0.at' 2), .int .i64 (s0.is' 0), .int .i64 (s0.is' 1), .int .i64 (s0.is' 2)] 49 (0, 0)) ∧ MacAt M base p s (put10 W (B + 1) (stv n s0)) ∧ FrM N w (put10 W (B + 1) (stv n s0)) := by
  have hB := h.hB
  have hM := h.hM
  have hN := h.hN
  have hsz : (put10 W (B + 1) (stv n s0)).heap.size = W.heap.size ∧ (put10 W (B + 1) (stv n s0)).os = W.os ∧ (put10 W (B + 1) (stv n s0)).tape = W.tape ∧ (put10 W (B + 1) (stv n s0)).output = W.output := by unfold put10; simp [World.setCell]
  have hrow := row10_arr (put10_row h.res (stv n s0))
  have hoth := put10_oth W (B + 1) (stv n s0)
  have hr := h.res
  obtain ⟨c1, b1, _⟩ := hr
  generalize put10 W (B + 1) (stv n s0) = W' at *
  obtain ⟨z1, z2, z3, z4⟩ := hsz
  refine ⟨hrow, h.mac.one b1 (by decide) (by decide) (by omega) (fun x _ hx => hoth x hx), ?_⟩
  exact ⟨⟨z2.trans h.fr.1.os, z3.trans h.fr.1.tape, z4.trans h.fr.1.output, by have := h.fr.1.size; omega, fun k hk => (hoth k (by omega)).trans (h.fr.1.block k hk)⟩, by have := h.fr.2.1; omega, fun k cs t f e h1 h2 => (hoth k (by have := (Array.getElem?_eq_some_iff.1 e).1; omega)).trans (h.fr.2.2 k cs t f e h1 h2)⟩
/-- what Do answers -/
def DoR (N M base p : Nat) (s : RM) (op a b c : Int) (w : World) (e : Ending) (w' : World) : Prop :=
  e = .returned (.agg #[.int .i64 (s.step p op a b c).2.pc, .int .i64 (s.step p op a b c).2.fp, .int .i64 (s.step p op a b c).2.ap, .int .i64 (s.step p op a b c).2.rv, .int .i64 (s.at' 0), .int .i64 (s.at' 1), .int .i64 (s.at' 2), .int .i64 (s.is' 0), .int .i64 (s.is' 1), .int .i64 (s.is' 2)]) ∧ MacAt M base p (s.step p op a b c).1 w' ∧ FrM N w w'

/-- what is known of a machine on the way -/
def SOk (p n k : Nat) (s : RM) : Prop := (∀ j, j < s.cs.length → 0 ≤ (cat s.cs j).2 ∧ (cat s.cs j).2 < p) ∧ s.cs.length ≤ n ∧ (s.err = 0 → s.slot ≤ k)
theorem look_ok {p n k : Nat} {s : RM} (hp : 3 ≤ p) (h : SOk p n k s) (x : Int) : SOk p n (k + 1) (s.look x).1 ∧ 0 ≤ (s.look x).2 ∧ (s.look x).2 < p := by
  unfold RM.look
  split
  · rename_i h1
    exact ⟨⟨h.1, h.2.1, fun e => absurd e h1⟩, by omega, by show (0 : Int) < p; omega⟩
  · rename_i h1
    split
    · exact ⟨⟨h.1, h.2.1, fun e => absurd (show (10 : Int) = 0 from e) (by decide)⟩, by omega, by show (0 : Int) < p; omega⟩
    · rename_i h2
      rcases finz_cases s.cs x with hm | ⟨i, hi, hil, _⟩
      · rw [hm] at h2; exact absurd (by decide) h2
      · have hb := h.1 i hil
        rw [hi, Int.toNat_natCast]
        refine ⟨⟨h.1, h.2.1, fun e => ?_⟩, hb⟩
        have := h.2.2 e
        show s.slot + 1 ≤ k + 1
        omega
theorem must_ok {p n k : Nat} {s : RM} (h : SOk p n k s) (b : Bool) : SOk p n k (s.must b) := by
  unfold RM.must
  split
  · exact ⟨h.1, h.2.1, fun e => absurd (show (7 : Int) = 0 from e) (by decide)⟩
  · exact h
theorem rck_ok {p n k : Nat} {s : RM} (h : SOk p n k s) (op y : Int) : SOk p n k (s.rck op y) := by
  unfold RM.rck
  split
  · exact must_ok h _
  · exact h
theorem cat_app {cs : List (Int × Int)} {d : Int × Int} {j : Nat} (h : j < cs.length) : cat (cs ++ [d]) j = cat cs j := by simp [cat, List.getElem?_append_left h]
theorem cat_last (cs : List (Int × Int)) (d : Int × Int) : cat (cs ++ [d]) cs.length = d := by simp [cat]
theorem tell_ok {p n k : Nat} {s : RM} (hp : 3 ≤ p) (h : SOk p n k s) (x y : Int) : SOk p (n + 1) (k + 1) (s.tell p x y) := by
  unfold RM.tell
  split
  · rename_i h1
    exact ⟨h.1, by have := h.2.1; omega, fun e => absurd e h1⟩
  · rename_i h1
    split
    · exact ⟨h.1, by have := h.2.1; show s.cs.length ≤ n + 1; omega, fun e => absurd (show (7 : Int) = 0 from e) (by decide)⟩
    · split
      · refine ⟨fun j hj => ?_, ?_, fun e => ?_⟩
        · change j < (s.cs ++ [(x, y % (p : Int))]).length at hj
          show 0 ≤ (cat (s.cs ++ [(x, y % (p : Int))]) j).2 ∧ (cat (s.cs ++ [(x, y % (p : Int))]) j).2 < p
          by_cases hjl : j < s.cs.length
          · rw [cat_app hjl]; exact h.1 j hjl
          · obtain rfl : j = s.cs.length := by simp at hj; omega
            rw [cat_last]
            exact emod_bounds y p hp
        · show (s.cs ++ [(x, y % (p : Int))]).length ≤ n + 1
          have := h.2.1
          simp
          omega
        · have := h.2.2 e
          show s.slot + 1 ≤ k + 1
          omega
      · refine ⟨h.1, by have := h.2.1; show s.cs.length ≤ n + 1; omega, fun e => ?_⟩
        have := h.2.2 e
        show s.slot + 1 ≤ k + 1
        omega
theorem rkn_bounds {p : Nat} (hp : 3 ≤ p) (op x y : Int) : 0 ≤ rkn p op x y ∧ rkn p op x y < p := by
  unfold rkn
  split
  · exact emod_bounds _ p hp
  · split
    · exact emod_bounds _ p hp
    · split
      · exact emod_bounds _ p hp
      · split
        · exact emod_bounds _ p hp
        · split
          · omega
          · omega

end Go.Proofs.YthemehdcakimgaiDoor
