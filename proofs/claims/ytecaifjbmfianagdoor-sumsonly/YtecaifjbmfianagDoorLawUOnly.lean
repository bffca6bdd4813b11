/- SumsOnly: the walk. -/
import Derived.Test.YtecaifjbmfianagDoorSumX
import Derived.Test.YtecaifjbmfianagDoorDoms
import Derived.Test.YtecaifjbmfianagDoorSpgs
namespace Go.Proofs.YtecaifjbmfianagDoor
open Go.RowKit

/-- a row of numbers that may be written -/
def RowA (W : World) (g M m : Nat) (f : Nat → Int) : Prop := ∃ F : Nat → Value, W.rowIs g 3 M F ∧ m ≤ M ∧ ∀ j, j < m → F j = .int .i64 (f j)
theorem RowA.lt {W : World} {g M m : Nat} {f : Nat → Int} (h : RowA W g M m f) : g < W.heap.size := by obtain ⟨F, h1, _⟩ := h; exact h1.lt
theorem RowA.below {W W' : World} {g M m : Nat} {f : Nat → Int} (h : RowA W g M m f) (e : Below W.heap.size W W') : RowA W' g M m f := by
  have hl := h.lt
  obtain ⟨F, h1, h2⟩ := h
  exact ⟨F, h1.of_block (e.block g hl), h2⟩
theorem RowA.set {W : World} {g M m : Nat} {f : Nat → Int} (h : RowA W g M m f) (i : Nat) (x : Int) : RowA (W.setCell ⟨g, i, none⟩ (.int .i64 x)) g M m (Sum.upz f i x) := by
  obtain ⟨F, h1, h2, h3⟩ := h
  refine ⟨_, h1.set i (.int .i64 x), h2, fun j hj => ?_⟩
  unfold Sum.upz
  by_cases e : j = i
  · simp [e]
  · simp only [e, if_false]; exact h3 j hj
theorem RowA.cell {W : World} {g M m : Nat} {f : Nat → Int} (h : RowA W g M m f) {i : Nat} (hi : i < m) : W.cell? ⟨g, i, none⟩ = some (.int .i64 (f i)) ∧ W.frozen? ⟨g, i, none⟩ = false := by
  obtain ⟨F, h1, h2, h3⟩ := h
  exact ⟨by rw [h1.cell (by omega), h3 i hi], h1.frozen i⟩
theorem RowA.inL {W : World} {g M m : Nat} {f : Nat → Int} (h : RowA W g M m f) (hm : m ≤ 17592186043904) (hf : ∀ j, j < m → -9223372036854775808 ≤ f j ∧ f j ≤ 9223372036854775807) : InL W (some ⟨g, 0, none⟩) M (ls f m) := by
  have hl := h.lt
  have hM : m ≤ M := by obtain ⟨F, _, h2, _⟩ := h; exact h2
  refine ⟨by rw [ls_len]; exact hm, fun j hj => ?_, fun k hk => ⟨g, 0, rfl, hl, ?_⟩, by rw [ls_len]; exact hM, fun e => by cases e⟩
  · rw [ls_len] at hj
    rw [ls_at _ _ _ hj]
    exact hf j hj
  · rw [ls_len] at hk
    rw [Nat.zero_add, (h.cell hk).1, ls_at _ _ _ hk]
theorem ext_ls {t f : Nat → Int} {v : Nat} : Sum.ext t (zat (ls f v)) v = Sum.ext t f v := Sum.ext_same (fun _ _ => rfl) (fun _ hj => ls_at _ _ _ hj)
theorem upz_self (f : Nat → Int) (j : Nat) : Sum.upz f j (f j) = f := by
  funext i
  unfold Sum.upz
  by_cases e : i = j
  · simp [e]
  · simp [e]
/-- it goes straight, as elements -/
theorem straight_mod {p : Nat} (h3 : 3 ≤ p) (t at' : Nat → Int) (v j : Nat) (hj : j < v) (r : Int) :
    (Sum.ext t (Sum.upz at' j 0) v % (p : Int) + (Sum.ext t (Sum.upz at' j 1) v % (p : Int) - Sum.ext t (Sum.upz at' j 0) v % (p : Int)) % (p : Int) * r % (p : Int)) % (p : Int) = Sum.ext t (Sum.upz at' j r) v % (p : Int) := by
  rw [Sum.ext_straight t at' v j hj r, Pol.emod_eq_iff (by omega)]
  have e0 := Pol.emod_dvd p (Sum.ext t (Sum.upz at' j 0) v)
  have e1 := Pol.emod_dvd p (Sum.ext t (Sum.upz at' j 1) v)
  have e2 := Pol.emod_dvd p (Sum.ext t (Sum.upz at' j 1) v % (p : Int) - Sum.ext t (Sum.upz at' j 0) v % (p : Int))
  have e3 := Pol.emod_dvd p ((Sum.ext t (Sum.upz at' j 1) v % (p : Int) - Sum.ext t (Sum.upz at' j 0) v % (p : Int)) % (p : Int) * r)
  refine Sum.dvd_add_sub e0 ?_
  have e4 : (p : Int) ∣ (Sum.ext t (Sum.upz at' j 1) v % (p : Int) - Sum.ext t (Sum.upz at' j 0) v % (p : Int)) % (p : Int) - (Sum.ext t (Sum.upz at' j 1) v - Sum.ext t (Sum.upz at' j 0) v) := by
    have := Int.dvd_add e2 (Int.dvd_sub e1 e0)
    rwa [show ∀ a b c d e : Int, a - (b - c) + (b - d - (c - e)) = a - (d - e) from fun a b c d e => by omega] at this
  have e5 := Sum.dvd_mul_sub e4 (show (p : Int) ∣ r - r by simp)
  have := Int.dvd_add e3 e5
  rwa [show ∀ a b c : Int, a - b + (b - c) = a - c from fun a b c => by omega] at this

set_option maxRecDepth 100000 in
set_option maxHeartbeats 4000000 in
theorem alone_any (EX : ExtAs) (q b v c1 : Nat) (a1 : Option Addr) (t : List Int) (w : World) (hF : InT q b w) (h1 : InL w a1 c1 t) (hv : v ≤ 12) (hl : t.length = 2 ^ v) :
    Calls Tryd.prog 26 #[.pointer (some ⟨b, 0, none⟩), .slice a1 t.length c1, .int .i64 (v : Int)] w fun e w' => e = .returned (.bool true) ∧ Below w.heap.size w w' := by
  have HEX := hid EX
  have HF := hid hF
  have H1 := hid h1
  have h3 := hF.h3
  have h4 := hF.hm
  obtain ⟨N, hN⟩ : ∃ N, N = t.length := ⟨_, rfl⟩
  have hN2 : N ≤ 4096 := by rw [hN, hl]; exact two12 hv
  have HN := hid hN
  have HN2 : Hid (N = 2 ^ v) := by unfold Hid; rw [hN, hl]
  rw [← hN]
  have hmk2 := fun w => run_make_row' (P := Tryd.prog) 23 3 (.int .i64 0) 8 Tryd.underlying23 Tryd.infoInt rfl .i64 .i64 v (by omega) (by omega) w
  have hv1 : IntKind.i64.wrap ((v : Int) - 1) = (v : Int) - 1 := by rw [IntKind.wrap_i64]; omega
  clear EX hF h1 hl hN
  go_enter Tryd.func26, Tryd.ntmps26
  go_wp2_with fail
  go_loopw [7] (fun iv wr => ∃ i : Nat, i ≤ N ∧ iv = .int .i64 i ∧ Hid (Below w.heap.size w wr)) (fun iv _ => N - (intOf iv).toNat)
  case atStart => exact ⟨0, by omega, rfl, Below.refl _ _⟩
  case round =>
    obtain ⟨i, hi, rfl, hI⟩ := hrel
    by_cases hlt : i < N
    · have hlt2 : (i : Int) < (N : Int) := by omega
      have hks : IntKind.i64.wrap ((i : Int) + 1) = (i : Int) + 1 := by rw [IntKind.wrap_i64]; omega
      have HB := hI
      clear hI
      generalize wr = Wi at *
      obtain ⟨G, hG⟩ : ∃ G : Nat → Int, G = fun j => ((i / 2 ^ (v - 1 - j) % 2 : Nat) : Int) := ⟨_, rfl⟩
      have HG := hid hG
      have HR0 : Hid (RowA (Wi.alloc (.cells (madeCells #[.int .i64 0] v) 3)) Wi.heap.size v v (fun _ => 0)) := ⟨_, World.rowIs_made Wi _ v _, Nat.le_refl _, fun _ _ => rfl⟩
      have HB0 : Hid (Below Wi.heap.size Wi (Wi.alloc (.cells (madeCells #[.int .i64 0] v) 3))) := (Below.refl _ _).alloc (Nat.le_refl _) _
      clear hG
      go_wp2_with fail
      go_loopw [9, 10] (fun nv jv wk => ∃ (m n' : Nat) (z : Int), m ≤ v ∧ nv = .int .i64 (n' : Int) ∧ jv = .int .i64 z ∧ z = (v : Int) - 1 - (m : Int) ∧ n' ≤ 4096 ∧ Hid (n' = i / 2 ^ m ∧ (∃ f : Nat → Int, RowA wk Wi.heap.size v v f ∧ ∀ j, v - m ≤ j → j < v → f j = G j) ∧ Below Wi.heap.size Wi wk)) (fun _ jv _ => (intOf jv + 1).toNat)
      case atStart => exact ⟨0, i, (v : Int) - 1, by omega, rfl, rfl, by omega, by omega, by simp, ⟨_, HR0.out, fun j h1 h2 => by omega⟩, HB0.out⟩
      case round =>
        obtain ⟨m, n', z, hm, rfl, rfl, hz, hn', hJ⟩ := hrel
        by_cases hmt : m < v
        · obtain ⟨j, hj⟩ : ∃ j, j = v - 1 - m := ⟨_, rfl⟩
          obtain rfl : z = (j : Int) := by omega
          have hjv : j < v := by omega
          have hjv2 : (j : Int) < (v : Int) := by omega
          have hj0 : (j : Int) ≥ 0 := by omega
          have hjw : IntKind.i64.wrap ((j : Int) - 1) = (j : Int) - 1 := by rw [IntKind.wrap_i64]; omega
          have HJV : Hid (v = j + m + 1) := by unfold Hid; omega
          obtain ⟨Q, hQ⟩ : ∃ Q, Q = n' / 2 := ⟨_, rfl⟩
          obtain ⟨B, hB⟩ : ∃ B, B = n' % 2 := ⟨_, rfl⟩
          have q0 : (n' : Int) / 2 = (Q : Int) := by omega
          have q1 : (n' : Int).tdiv 2 = (Q : Int) := by rw [hQ]; rfl
          have q2 : IntKind.i64.wrap (Q : Int) = (Q : Int) := by rw [IntKind.wrap_i64]; omega
          have q3 : (n' : Int).tmod 2 = (B : Int) := by rw [hB]; rfl
          have q4 : IntKind.i64.wrap (B : Int) = (B : Int) := by rw [IntKind.wrap_i64]; omega
          have q5 : (n' : Int) % 2 = (B : Int) := by omega
          have hQ2 : Q ≤ 4096 := by omega
          have HBG : Hid ((B : Int) = G j) := by
            unfold Hid
            rw [HG.out]
            show (B : Int) = ((i / 2 ^ (v - 1 - j) % 2 : Nat) : Int)
            rw [hB, hJ.out.1, show v - 1 - j = m from by omega]
          have HQG : Hid (Q = i / 2 ^ (m + 1)) := by unfold Hid; rw [hQ, hJ.out.1, Nat.pow_succ, Nat.div_div_eq_div_mul]
          obtain ⟨f, hrow, hfj⟩ := hJ.out.2.1
          have HRW := hid hrow
          have HFJ := hid hfj
          have HBK := hid hJ.out.2.2
          obtain ⟨hc, hfr⟩ := hrow.cell hjv
          have HE : Hid (Q = i / 2 ^ (m + 1) ∧ (∃ f : Nat → Int, RowA (wr.setCell ⟨Wi.heap.size, j, none⟩ (.int .i64 (B : Int))) Wi.heap.size v v f ∧ ∀ k, v - (m + 1) ≤ k → k < v → f k = G k) ∧ Below Wi.heap.size Wi (wr.setCell ⟨Wi.heap.size, j, none⟩ (.int .i64 (B : Int)))) := by
            refine ⟨HQG.out, ⟨_, HRW.out.set j (B : Int), fun k h1 h2 => ?_⟩, HBK.out.setCell (p := ⟨Wi.heap.size, j, none⟩) (Nat.le_refl _) _⟩
            unfold Sum.upz
            by_cases e : k = j
            · rw [if_pos e, e, HBG.out]
            · rw [if_neg e]
              exact HFJ.out k (by omega) h2
          clear hJ hrow hfj hQ hB hj hz HBG HQG HFJ HRW
          go_wp2_with fail
          go_roundw
          case rel => exact ⟨m + 1, Q, (j : Int) - 1, by omega, by go_num, by go_num, by have := HJV.out; omega, hQ2, HE⟩
          case measure => simp [intOf]
        · obtain rfl : m = v := by omega
          obtain rfl : z = -1 := by omega
          obtain ⟨f, hrow, hfj⟩ := hJ.out.2.1
          have HB2 : Hid (Below w.heap.size w wr) := HB.out.trans (hJ.out.2.2.mono HB.out.size)
          have HFF : Hid (InT q b wr) := HF.out.below HB2.out
          have HAL : Hid (InL wr (some ⟨Wi.heap.size, 0, none⟩) m (ls f m)) := hrow.inL (by omega) (fun k hk => by
            rw [hfj k (by omega) hk, HG.out]
            show _ ≤ ((_ : Nat) : Int) ∧ ((_ : Nat) : Int) ≤ _
            have := Nat.mod_lt (i / 2 ^ (m - 1 - k)) (show 0 < 2 by omega)
            omega)
          obtain ⟨y, hy⟩ : ∃ y, y = zat t i := ⟨_, rfl⟩
          have HXE : Hid (Calls Tryd.prog 21 #[.pointer (some ⟨b, 0, none⟩), .slice a1 N c1, .slice (some ⟨Wi.heap.size, 0, none⟩) m m] wr fun e w' => e = .returned (.tuple #[.int .i64 (y % (q : Int)), .nilIface]) ∧ Below wr.heap.size wr w') := by
            have h := HEX.out q b c1 m a1 (some ⟨Wi.heap.size, 0, none⟩) t (ls f m) wr HFF.out (H1.out.below HB2.out) HAL.out
            have hvr : vrs t.length = ((ls f m).length : Int) := by rw [ls_len, ← HN.out]; exact vrs_yes hv HN2.out
            have e1 : exz q t (ls f m) = y % (q : Int) := by
              unfold exz
              rw [if_pos hvr, ls_len, ext_ls, hy]
              congr 1
              rw [← Sum.ext_bits (zat t) m i (by rw [← HN2.out]; exact hlt)]
              refine Sum.ext_same (fun _ _ => rfl) (fun k hk => ?_)
              rw [hfj k (by omega) hk, HG.out]
            have e2 : exe t (ls f m) = 0 := by unfold exe; rw [if_pos hvr]
            rw [e1, e2, errz_nil, ls_len, ← HN.out] at h
            exact h
          obtain ⟨b2, o2, hae, hb2, hx⟩ := H1.out.lst.row i (by rw [← HN.out]; exact hlt)
          subst hae
          obtain ⟨f1, f2⟩ := H1.out.fit.all i
          rw [← hy] at hx f1 f2
          have HXX : Hid (∀ W, Below w.heap.size w W → W.cell? ⟨b2, o2 + i, none⟩ = some (.int .i64 y)) := fun W h => (h.cell (p := ⟨b2, o2 + i, none⟩) hb2).trans hx
          have HOF : Hid (∀ W, InT q b W → Calls Tryd.prog 38 #[.pointer (some ⟨b, 0, none⟩), .int .i64 y] W fun e w' => e = .returned (.int .i64 (y % (q : Int))) ∧ w' = W) := fun W h => of_any q b y W h3 h4 h.cell f1 f2
          generalize y % (q : Int) = ym at *
          have hyy : (ym != ym) = false := by simp
          clear hJ hrow hfj hx hy HAL
          go_wp2_with fail
          refine HXE.out.mono ?_
          rintro e w3 ⟨rfl, hb3⟩
          have HB3 : Hid (Below w.heap.size w w3) := HB2.out.trans (hb3.mono HB2.out.size)
          have x1 := HXX.out w3 HB3.out
          have HOF3 := hid (HOF.out w3 (HFF.out.below hb3))
          clear hb3 HXE
          go_wp2_with fail
          refine HOF3.out.mono ?_
          rintro e w4 ⟨rfl, rfl⟩
          clear HOF3 x1
          go_wp2_with fail
          go_roundw
          case rel => exact ⟨i + 1, by omega, by go_num, HB3⟩
          case measure => simp [intOf]; omega
    · obtain rfl : i = N := by omega
      have hlt2 : ¬ (i : Int) < (i : Int) := by omega
      go_wp2_with fail
      go_ret
      exact ⟨rfl, hI.out⟩

set_option maxRecDepth 100000 in
set_option maxHeartbeats 4000000 in
theorem uonly_good (EX : ExtAs) (TO : TotAs) (q : Nat) (a1 a2 : Option Addr) (c1 c2 : Nat) (t at' : List Int) (j r : Int) (w : World) (hT : TabAt 2 Lib.deBruijn64tab w) (h3 : 3 ≤ q) (h4 : q ≤ 2147483647) (hpr : Num.Prime q) (h1 : InL w a1 c1 t) (h2 : InL w a2 c2 at') (hr1 : -9223372036854775808 ≤ r) (hr2 : r ≤ 9223372036854775807) :
    Calls Tryd.prog 6 #[.int .i64 q, .slice a1 t.length c1, .slice a2 at'.length c2, .int .i64 j, .int .i64 r] w fun e w' => e = .returned (.bool true) ∧ Below w.heap.size w w' := by
  have HTT := hid hT
  have HP := hid hpr
  have H1 := hid h1
  have H2 := hid h2
  have HEX := hid EX
  have HTO := hid TO
  have hla := h2.len
  obtain ⟨n, hn⟩ : ∃ n, n = t.length := ⟨_, rfl⟩
  obtain ⟨m, hm⟩ : ∃ m, m = at'.length := ⟨_, rfl⟩
  have HN := hid hn
  have HM := hid hm
  rw [← hm] at hla ⊢
  rw [← hn]
  clear hT hpr h1 h2 EX TO hn hm
  go_enter Tryd.func6, Tryd.ntmps6
  go_wp2_with fail
  refine (lives4_any HTO.out w).mono ?_
  rintro e w0 ⟨rfl, hb0⟩
  have HB0 := hid hb0
  clear hb0
  go_wp2_with fail
  refine (plain4_yes q w0 h3 h4 HP.out).mono ?_
  rintro e w1 ⟨b, rfl, hf1, hb1⟩
  have HB1 : Hid (Below w.heap.size w w1) := HB0.out.trans (hb1.mono HB0.out.size)
  replace hf1 : InT q b w1 := ⟨hf1, tabu_below HTT.out HB1.out⟩
  have HI1 := hid hf1
  obtain ⟨X, hX⟩ : ∃ X, X = exz q t at' := ⟨_, rfl⟩
  obtain ⟨E, hE⟩ : ∃ E, E = exe t at' := ⟨_, rfl⟩
  have HXX := hid hX
  have HEE := hid hE
  have HX1 : Hid (Calls Tryd.prog 21 #[.pointer (some ⟨b, 0, none⟩), .slice a1 n c1, .slice a2 m c2] w1 fun e w' => e = .returned (.tuple #[.int .i64 X, errz E]) ∧ Below w1.heap.size w1 w') := by
    have h := HEX.out q b c1 c2 a1 a2 t at' w1 hf1 (H1.out.below HB1.out) (H2.out.below HB1.out)
    rw [← HN.out, ← HM.out, ← hX, ← hE] at h
    exact h
  clear hf1 hb1 HB0 hX hE
  go_wp2_with fail
  refine HX1.out.mono ?_
  rintro e w2 ⟨rfl, hb2⟩
  have HB2 : Hid (Below w.heap.size w w2) := HB1.out.trans (hb2.mono HB1.out.size)
  have HI2 := hid (HI1.out.below hb2)
  clear hb2 HX1 HB1 HI1
  by_cases hE0 : E = 0
  · have HVR : Hid (vrs t.length = (at'.length : Int)) := by
      unfold Hid
      have h := HEE.out
      rw [hE0] at h
      unfold exe at h
      split at h
      · assumption
      · omega
    have HV : Hid (m ≤ 12 ∧ t.length = 2 ^ m) := by
      obtain ⟨v, e1, e2, e3⟩ := vrs_of (n := t.length) (by rw [HVR.out]; omega)
      have : v = m := by rw [HM.out]; have := HVR.out; omega
      subst this
      exact ⟨e1, e2⟩
    have HXQ : Hid (X = Sum.ext (zat t) (zat at') m % (q : Int)) := by unfold Hid; rw [HXX.out]; unfold exz; rw [if_pos HVR.out, ← HM.out]
    rw [hE0, errz_nil]
    clear hE0
    by_cases hj : 0 ≤ j ∧ j < (m : Int)
    · obtain ⟨jn, rfl⟩ := Int.eq_ofNat_of_zero_le hj.1
      have hjm : jn < m := by omega
      have t1 : ¬ (jn : Int) < 0 := by omega
      have t2 : ¬ (jn : Int) ≥ (m : Int) := by omega
      have hjm2 : (jn : Int) < (m : Int) := by omega
      clear hj
      have HA2 := hid (H2.out.below HB2.out)
      have HOW : Hid ((w2.alloc (.cells #[] 3)).ownsRow w2.heap.size 3 1 (.slice (some ⟨w2.heap.size, 0, none⟩) 0 0) ([] : List Int).length (([] : List Int).map (Value.int .i64))) := World.ownsRow_made (size := 1) w2 #[] 0 (Nat.le_refl _) (by unfold maxLen; omega) (by simp)
      have HBA : Hid (Below w2.heap.size w2 (w2.alloc (.cells #[] 3))) := (Below.refl _ _).alloc (Nat.le_refl _) _
      have HLA := hid (HA2.out.lst.below HBA.out)
      have HML : Hid (at'.length ≤ 17592186043904) := by unfold Hid; rw [← HM.out]; exact hla
      go_wp2_with (at_builtin; refine wpList_appendL (w2.alloc (.cells #[] 3)) w2.heap.size w2.heap.size rfl _ _ rfl _ rfl [] at' HOW.out a2 c2 (by show Value.slice a2 m c2 = _; rw [HM.out]) (by have := HML.out; simp; omega) HBA.out.size HLA.out ?_)
      intro v3 w3 ho3 hb3
      have ho3' : w3.ownsRow w2.heap.size 3 1 v3 at'.length (at'.map (Value.int .i64)) := by simpa using ho3
      obtain ⟨g, M, F, hv3, hg, hrow, hM, hFj⟩ := rowIs_of_owns ho3' (by rw [← HM.out]; omega)
      rw [← HM.out] at hv3 hM hFj
      subst hv3
      have HR3 : Hid (RowA w3 g M m (zat at')) := ⟨F, hrow, hM, hFj⟩
      have HBB3 : Hid (Below w2.heap.size w2 w3) := HBA.out.trans hb3
      have hFB : ∀ k, k < m → -9223372036854775808 ≤ zat at' k ∧ zat at' k ≤ 9223372036854775807 := fun k _ => H2.out.fit.all k
      have HFB := hid hFB
      have HUB : Hid (∀ x : Int, -9223372036854775808 ≤ x → x ≤ 9223372036854775807 → ∀ k, k < m → -9223372036854775808 ≤ Sum.upz (zat at') jn x k ∧ Sum.upz (zat at') jn x k ≤ 9223372036854775807) := fun x x1 x2 k hk => by
        unfold Sum.upz
        split
        · exact ⟨x1, x2⟩
        · exact HFB.out k hk
      have HUU : Hid (∀ x y : Int, Sum.upz (Sum.upz (zat at') jn x) jn y = Sum.upz (zat at') jn y) := fun x y => by
        funext k
        unfold Sum.upz
        split <;> rfl
      have HEC : Hid (∀ (x : Int) (W : World), -9223372036854775808 ≤ x → x ≤ 9223372036854775807 → Below w2.heap.size w2 W → RowA W g M m (Sum.upz (zat at') jn x) → Calls Tryd.prog 21 #[.pointer (some ⟨b, 0, none⟩), .slice a1 n c1, .slice (some ⟨g, 0, none⟩) m M] W fun e w' => e = .returned (.tuple #[.int .i64 (Sum.ext (zat t) (Sum.upz (zat at') jn x) m % (q : Int)), .nilIface]) ∧ Below W.heap.size W w') := fun x W x1 x2 hb hra => by
        have hbw := HB2.out.trans (hb.mono HB2.out.size)
        have h := HEX.out q b c1 M a1 (some ⟨g, 0, none⟩) t (ls (Sum.upz (zat at') jn x) m) W (HI2.out.below hb) (H1.out.below hbw) (hra.inL hla (HUB.out x x1 x2))
        have hvr : vrs t.length = ((ls (Sum.upz (zat at') jn x) m).length : Int) := by rw [ls_len, HM.out]; exact HVR.out
        have e1 : exz q t (ls (Sum.upz (zat at') jn x) m) = Sum.ext (zat t) (Sum.upz (zat at') jn x) m % (q : Int) := by unfold exz; rw [if_pos hvr, ls_len, ext_ls]
        have e2 : exe t (ls (Sum.upz (zat at') jn x) m) = 0 := by unfold exe; rw [if_pos hvr]
        rw [e1, e2, errz_nil, ls_len, ← HN.out] at h
        exact h
      obtain ⟨cc3, cf3⟩ := HR3.out.cell hjm
      have HR4 := hid (HR3.out.set jn 0)
      have HB4 : Hid (Below w2.heap.size w2 (w3.setCell ⟨g, jn, none⟩ (.int .i64 0))) := HBB3.out.setCell (p := ⟨g, jn, none⟩) hg _
      have HX4 := hid (HEC.out 0 _ (by omega) (by omega) HB4.out HR4.out)
      obtain ⟨Y, hY⟩ : ∃ Y, Y = Sum.ext (zat t) (Sum.upz (zat at') jn 0) m % (q : Int) := ⟨_, rfl⟩
      obtain ⟨Z, hZ⟩ : ∃ Z, Z = Sum.ext (zat t) (Sum.upz (zat at') jn 1) m % (q : Int) := ⟨_, rfl⟩
      obtain ⟨T, hT⟩ : ∃ T, T = Sum.ext (zat t) (Sum.upz (zat at') jn r) m % (q : Int) := ⟨_, rfl⟩
      have HYB : Hid (0 ≤ Y ∧ Y < (q : Int)) := by rw [hY]; exact emod_bounds _ q h3
      have HZB : Hid (0 ≤ Z ∧ Z < (q : Int)) := by rw [hZ]; exact emod_bounds _ q h3
      have HS1 : Hid ((Y + (Z - Y) % (q : Int) * r % (q : Int)) % (q : Int) = T) := by unfold Hid; rw [hY, hZ, hT]; exact straight_mod h3 (zat t) (zat at') m jn hjm r
      have HS2 : Hid ((Y + (Z - Y) % (q : Int) * zat at' jn % (q : Int)) % (q : Int) = X) := by
        unfold Hid
        rw [hY, hZ, HXQ.out, straight_mod h3 (zat t) (zat at') m jn hjm (zat at' jn), upz_self]
      rw [← hY] at HX4
      have HYY := hid hY
      have HZZ := hid hZ
      have HTT := hid hT
      clear ho3 ho3' hrow hFj hb3 HOW HLA HA2 hFB hY hZ hT HBA
      go_wp2_with fail
      refine HX4.out.mono ?_
      rintro e w5 ⟨rfl, hb5⟩
      have HB5 : Hid (Below w2.heap.size w2 w5) := HB4.out.trans (hb5.mono HB4.out.size)
      have HR5 := hid (HR4.out.below hb5)
      obtain ⟨cc5, cf5⟩ := HR5.out.cell hjm
      have HR6 := hid (HR5.out.set jn 1)
      rw [HUU.out] at HR6
      have HB6 : Hid (Below w2.heap.size w2 (w5.setCell ⟨g, jn, none⟩ (.int .i64 1))) := HB5.out.setCell (p := ⟨g, jn, none⟩) hg _
      have HX6 := hid (HEC.out 1 _ (by omega) (by omega) HB6.out HR6.out)
      rw [← HZZ.out] at HX6
      clear hb5 HX4 HR3 HR4 HB4 cc3 cf3
      go_wp2_with fail
      refine HX6.out.mono ?_
      rintro e w7 ⟨rfl, hb7⟩
      have HB7 : Hid (Below w2.heap.size w2 w7) := HB6.out.trans (hb7.mono HB6.out.size)
      have HR7 := hid (HR6.out.below hb7)
      obtain ⟨cc7, cf7⟩ := HR7.out.cell hjm
      have HR8 := hid (HR7.out.set jn r)
      rw [HUU.out] at HR8
      have HB8 : Hid (Below w2.heap.size w2 (w7.setCell ⟨g, jn, none⟩ (.int .i64 r))) := HB7.out.setCell (p := ⟨g, jn, none⟩) hg _
      have HX8 := hid (HEC.out r _ hr1 hr2 HB8.out HR8.out)
      rw [← HTT.out] at HX8
      clear hb7 HX6 HR5 HR6 HB6 HB5 cc5 cf5
      go_wp2_with fail
      refine HX8.out.mono ?_
      rintro e w9 ⟨rfl, hb9⟩
      have HB9 : Hid (Below w2.heap.size w2 w9) := HB8.out.trans (hb9.mono HB8.out.size)
      have HBW : Hid (Below w.heap.size w w9) := HB2.out.trans (HB9.out.mono HB2.out.size)
      have hcl := (HI2.out.below HB9.out).cell
      clear hb9 HX8 HR7 HR8 HB8 HB7 cc7 cf7 HEC
      have HSB := hid (sub_any q b Z Y w9 h3 h4 hcl (by have := HZB.out; omega) (by have := HZB.out; omega) (by have := HYB.out; omega) (by have := HYB.out; omega))
      obtain ⟨s1, s2⟩ := emod_bounds (Z - Y) q h3
      generalize (Z - Y) % (q : Int) = D at *
      have HMA := hid (mul_any q b D r w9 h3 h4 hcl (by omega) (by omega) hr1 hr2)
      obtain ⟨k1, k2⟩ := emod_bounds (D * r) q h3
      generalize D * r % (q : Int) = P1 at *
      have HAA := hid (add_any q b Y P1 w9 h3 h4 hcl (by have := HYB.out; omega) (by have := HYB.out; omega) (by omega) (by omega))
      rw [HS1.out] at HAA
      obtain ⟨b2, o2, hae, hb2, hx⟩ := H2.out.lst.row jn (by rw [← HM.out]; exact hjm)
      subst hae
      have xj := (HBW.out.cell (p := ⟨b2, o2 + jn, none⟩) hb2).trans hx
      obtain ⟨f1, f2⟩ := H2.out.fit.all jn
      obtain ⟨y, hy⟩ : ∃ y, y = zat at' jn := ⟨_, rfl⟩
      rw [← hy] at xj f1 f2 HS2
      have HMB := hid (mul_any q b D y w9 h3 h4 hcl (by omega) (by omega) f1 f2)
      obtain ⟨k3, k4⟩ := emod_bounds (D * y) q h3
      generalize D * y % (q : Int) = P2 at *
      have HAB := hid (add_any q b Y P2 w9 h3 h4 hcl (by have := HYB.out; omega) (by have := HYB.out; omega) (by omega) (by omega))
      rw [HS2.out] at HAB
      have hTT : (T == T) = true := by simp
      have hXX : (X == X) = true := by simp
      clear hy hx hcl
      go_wp2_with fail
      refine HSB.out.mono ?_
      rintro e w10 ⟨rfl, rfl⟩
      go_wp2_with fail
      refine HMA.out.mono ?_
      rintro e w10 ⟨rfl, rfl⟩
      go_wp2_with fail
      refine HAA.out.mono ?_
      rintro e w10 ⟨rfl, rfl⟩
      go_wp2_with fail
      refine HMB.out.mono ?_
      rintro e w10 ⟨rfl, rfl⟩
      go_wp2_with fail
      refine HAB.out.mono ?_
      rintro e w10 ⟨rfl, rfl⟩
      go_wp2_with fail
      go_ret
      exact ⟨rfl, HBW.out⟩
    · have HAL : Hid (Calls Tryd.prog 26 #[.pointer (some ⟨b, 0, none⟩), .slice a1 n c1, .int .i64 (m : Int)] w2 fun e w' => e = .returned (.bool true) ∧ Below w2.heap.size w2 w') := by
        have h := alone_any HEX.out q b m c1 a1 t w2 HI2.out (H1.out.below HB2.out) HV.out.1 HV.out.2
        rw [← HN.out] at h
        exact h
      by_cases t1 : j < 0
      · clear hj
        go_wp2_with fail
        refine HAL.out.mono ?_
        rintro e w3 ⟨rfl, hb3⟩
        have HB3 : Hid (Below w.heap.size w w3) := HB2.out.trans (hb3.mono HB2.out.size)
        clear hb3
        go_wp2_with fail
        go_ret
        exact ⟨rfl, HB3.out⟩
      · have t2 : j ≥ (m : Int) := by omega
        clear hj
        go_wp2_with fail
        refine HAL.out.mono ?_
        rintro e w3 ⟨rfl, hb3⟩
        have HB3 : Hid (Below w.heap.size w w3) := HB2.out.trans (hb3.mono HB2.out.size)
        clear hb3
        go_wp2_with fail
        go_ret
        exact ⟨rfl, HB3.out⟩
  · rw [errz_some hE0]
    clear hE0
    go_wp2_with fail
    go_ret
    exact ⟨rfl, HB2.out⟩

set_option maxRecDepth 100000 in
theorem uonly_walk (EX : ExtAs) (TO : TotAs) (p : Int) (a1 a2 : Option Addr) (c1 c2 : Nat) (t at' : List Int) (j r : Int) (w : World) (hT : TabAt 2 Lib.deBruijn64tab w) (hp1 : -9223372036854775808 ≤ p) (hp2 : p ≤ 9223372036854775807)
    (hr1 : t.length ≤ 17592186043904) (hf1 : Fits t) (hl1 : Lst w.heap.size w a1 c1 t) (hr2 : at'.length ≤ 17592186043904) (hf2 : Fits at') (hl2 : Lst w.heap.size w a2 c2 at') (hx1 : -9223372036854775808 ≤ r) (hx2 : r ≤ 9223372036854775807) :
    Calls Tryd.prog 6 #[.int .i64 p, .slice a1 t.length c1, .slice a2 at'.length c2, .int .i64 j, .int .i64 r] w fun e w' => e = .returned (.bool true) ∧ Below w.heap.size w w' := by
  by_cases hg : okPrime p
  · obtain ⟨hq3, hq4, hqp⟩ := hg
    obtain ⟨q, rfl⟩ := Int.eq_ofNat_of_zero_le (show 0 ≤ p by omega)
    exact uonly_good EX TO q a1 a2 c1 c2 t at' j r w hT (by omega) (by omega) (by simpa using hqp) ⟨hr1, hf1, hl1⟩ ⟨hr2, hf2, hl2⟩ hx1 hx2
  · have HTO := hid TO
    clear hT hr1 hf1 hl1 hr2 hf2 hl2 EX TO
    go_enter Tryd.func6, Tryd.ntmps6
    go_wp2_with fail
    refine (lives4_any HTO.out w).mono ?_
    rintro e w0 ⟨rfl, hb0⟩
    have HB0 := hid hb0
    clear hb0
    go_wp2_with fail
    refine (plain4_no p w0 hg hp1 hp2).mono ?_
    rintro e w1 ⟨rfl, rfl⟩
    go_wp2_with fail
    go_ret
    exact ⟨rfl, HB0.out⟩

end Go.Proofs.YtecaifjbmfianagDoor
