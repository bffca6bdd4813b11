/- attestlaw5.lives; FoldKeeps: the walk. -/
import Derived.Test.YtbbjbhiihfnkmahFolT
import Derived.Test.YtbbjbhiihfnkmahPls
namespace Go.Proofs.Ytbbjbhiihfnkmah
open Go.RowKit

theorem ls_congr {F G : Nat → Int} {m : Nat} (h : ∀ i, i < m → F i = G i) : ls F m = ls G m := by
  unfold ls
  apply List.map_congr_left
  intro j hj
  exact h j (List.mem_range.1 hj)
theorem lst_of_rowIs {w : World} {g n : Nat} {f : Nat → Int} (h : w.rowIs g 3 n (fun j => .int .i64 (f j))) : Lst w.heap.size w (some ⟨g, 0, none⟩) n (ls f n) :=
  ⟨fun k hk => by rw [ls_len] at hk; exact ⟨g, 0, rfl, h.lt, by rw [Nat.zero_add, h.cell hk, ls_at _ _ _ hk]⟩, by rw [ls_len]; exact Nat.le_refl _, fun e => by cases e⟩
/-- the values of a polynomial -/
def vlz (p n : Nat) (r s : Int) (zs : List Int) : List Int := ls (fun j => evz p zs (Dom.pt p s r j)) n
theorem vlz_len (p n : Nat) (r s : Int) (zs : List Int) : (vlz p n r s zs).length = n := ls_len _ _
theorem vlz_fits {p : Nat} (h3 : 3 ≤ p) (hm : p ≤ 2147483647) (n : Nat) (r s : Int) (zs : List Int) : Fits (vlz p n r s zs) := fun j hj => by
  rw [vlz_len] at hj
  unfold vlz
  rw [ls_at _ _ _ hj]
  have := evz_bounds p zs (Dom.pt p s r j) h3
  omega
theorem values_lst {w : World} {p b d n : Nat} {r s : Int} (D : DO w p b d n r s) (a : Option Addr) (cap : Nat) (zs : List Int) (hlen : zs.length ≤ 281474976710656) (hfit : Fits zs) (hrow : RowB w.heap.size w a zs) :
    Calls Try.prog 8 #[.pointer (some ⟨d, 0, none⟩), .slice a zs.length cap] w fun e w' => ∃ g, e = .returned (.slice (some ⟨g, 0, none⟩) n n) ∧ Lst w'.heap.size w' (some ⟨g, 0, none⟩) n (vlz p n r s zs) ∧ Below w.heap.size w w' :=
  (values_ok D a cap zs hlen hfit hrow).mono fun _ _ ⟨h1, h2, h3, _⟩ => ⟨_, h1, lst_of_rowIs h2, h3⟩
theorem evz_more {p : Nat} (zs : List Int) (x : Int) {N : Nat} (h : zs.length ≤ N) : evz p zs x = Pol.ps (zat zs) x N % (p : Int) := by
  unfold evz
  rw [Dom.ps_stay (zat zs) x zs.length N h (fun j hj => by simp [zat, hj])]
/-- the values of a polynomial, folded, are those of its halves -/
theorem DO.fold_vlz {w : World} {p b d m : Nat} {r s : Int} (D : DO w p b d (2 * m) r s) (zs : List Int) (c : Int) (M : Nat) (hM : zs.length ≤ 2 * M) (B : Nat → Int) (hB : ∀ j, j < M → (p : Int) ∣ B j - Fol.evod (zat zs) c j) :
    Fol.foldz p m r s (vlz p (2 * m) r s zs) c = vlz p m (r * r % (p : Int)) (s * s % (p : Int)) (ls B M) := by
  have hp0 : 0 < p := by have := D.h3; omega
  have h := fun i (hi : i < m) => D.cir.fold_vals (zat zs) M (vlz p (2 * m) r s zs) (fun j hj => by
    unfold vlz
    rw [ls_at _ _ _ hj, evz_more zs _ hM]
    exact Pol.emod_dvd p _) c hi
  unfold vlz at h ⊢
  unfold Fol.foldz at h ⊢
  refine ls_congr (fun i hi => ?_)
  have h1 := h i hi
  rw [ls_at _ _ _ hi] at h1
  rw [evz_more (ls B M) _ (by rw [ls_len]; exact Nat.le_refl _)]
  have h2 := Pol.ps_congr (p := p) (f := zat (ls B M)) (g := Fol.evod (zat zs) c) (Dom.pt p (s * s % (p : Int)) (r * r % (p : Int)) i) M (fun j hj => by rw [ls_at _ _ _ hj]; exact hB j hj)
  have h3 := Fol.dvdt h1 (Fol.dvdn h2)
  have hb := Fol.pairz_bounds p (Dom.pt p s r i) (zat (ls (fun j => evz p zs (Dom.pt p s r j)) (2 * m)) i) (zat (ls (fun j => evz p zs (Dom.pt p s r j)) (2 * m)) (i + m)) c D.h3
  rw [← Int.emod_eq_of_lt hb.1 hb.2, Pol.emod_eq_iff hp0]
  exact h3

set_option maxRecDepth 100000 in
set_option maxHeartbeats 1000000 in
theorem lives5_any (FD : FldAs) (w : World) : Calls Try.prog 6 #[] w fun e w' => e = .returned (.bool true) ∧ Below w.heap.size w w' := by
  have HG : Hid (GoodAt 17 (1 + 1) 3) := ⟨prime17, by decide, by decide, by decide, by decide, by decide⟩
  have HFD := hid FD
  have HPL : Hid (Calls Try.prog 7 #[.int .i64 17, .int .i64 4, .int .i64 3] w fun e w' => ∃ (b d h r : Nat), e = .returned (.tuple #[.pointer (some ⟨b, 0, none⟩), .pointer (some ⟨d, 0, none⟩), .pointer (some ⟨h, 0, none⟩)]) ∧ RootIs 17 ((2 ^ (1 + 1) : Nat) : Int) r ∧ Dh w' 17 b d h (2 ^ 1) r (3 % ((17 : Nat) : Int)) ∧ Below w.heap.size w w') := plain5_yes 17 1 3 w HG.out (by decide) (by decide)
  clear FD
  go_enter Try.func6, Try.ntmps6
  go_wp2_with fail
  refine HPL.out.mono ?_
  rintro e w1 ⟨b, d, h, r, rfl, _, hD, hb1⟩
  have HD1 := hid hD
  have HB1 := hid hb1
  have HBL : Hid (Below w1.heap.size w1 (w1.alloc (.cells #[.int .i64 1, .int .i64 1] 3))) := (Below.refl _ _).alloc (Nat.le_refl _) _
  have HSZ : Hid ((w1.alloc (.cells #[.int .i64 1, .int .i64 1] 3)).heap.size = w1.heap.size + 1) := by unfold Hid; simp
  have HD2 := hid (HD1.out.step HBL.out)
  have HV := hid (values_lst HD2.out.dom (some ⟨w1.heap.size, 0, none⟩) 2 [1, 1] (by decide) (fun j hj => by
      have : j = 0 ∨ j = 1 := by simp at hj; omega
      rcases this with rfl | rfl <;> simp [zat])
    (fun k hk => by
      have : k = 0 ∨ k = 1 := by simp at hk; omega
      rcases this with rfl | rfl <;> exact ⟨w1.heap.size, 0, rfl, by rw [HSZ.out]; omega, by simp [zat]⟩))
  clear hD hb1 HPL
  go_wp2_with fail
  refine HV.out.mono ?_
  rintro e w2 ⟨g, rfl, hl2, hb2⟩
  have HD3 := hid (HD2.out.step hb2)
  have HB2 : Hid (Below w.heap.size w w2) := (HB1.out.trans (HBL.out.mono HB1.out.size)).trans (hb2.mono (by rw [HSZ.out]; have := HB1.out.size; omega))
  have HF2 := hid (HFD.out 17 b d (2 * 2 ^ 1) (2 * 2 ^ 1) (some ⟨g, 0, none⟩) r (3 % ((17 : Nat) : Int)) 2 (vlz 17 (2 * 2 ^ 1) r (3 % ((17 : Nat) : Int)) [1, 1]) w2 HD3.out.dom (by rw [vlz_len]; decide) (vlz_fits (by decide) (by decide) _ _ _ _) hl2 (by decide) (by decide))
  rw [vlz_len, show (2 * 2 ^ 1 / 2 : Nat) = 2 ^ 1 from by decide, HD3.out.dom.fold_vlz [1, 1] 2 1 (by decide) (fun _ => 3) (fun j hj => by
    obtain rfl : j = 0 := by omega
    simp [Fol.evod, zat])] at HF2
  clear hl2 hb2 HV
  rw [show ((2 * 2 ^ 1 : Nat)) = 4 from rfl] at HF2 ⊢
  go_wp2_with fail
  refine HF2.out.mono ?_
  rintro e w3 ⟨hb3, hy, _⟩
  obtain ⟨a', c', rfl, hl3⟩ := hy (by first | exact ⟨rfl, by decide⟩ | simp)
  have HB3 : Hid (Below w.heap.size w w3) := HB2.out.trans (hb3.mono HB2.out.size)
  have hz : ∀ j, j < 2 → zat (vlz 17 (2 ^ 1) ((r : Int) * (r : Int) % ((17 : Nat) : Int)) (3 % ((17 : Nat) : Int) * (3 % ((17 : Nat) : Int)) % ((17 : Nat) : Int)) (ls (fun _ => 3) 1)) j = 3 := fun j hj => by
    unfold vlz
    rw [ls_at _ _ _ (by simpa using hj)]
    simp [evz, ls, Pol.ps, zat]
  obtain ⟨b3, o3, ha, _, x0⟩ := hl3.row 0 (by rw [vlz_len]; decide)
  obtain ⟨_, _, he, _, x1⟩ := hl3.row 1 (by rw [vlz_len]; decide)
  subst ha
  cases he
  rw [hz 0 (by omega), Nat.add_zero] at x0
  rw [hz 1 (by omega)] at x1
  rw [show (2 ^ 1 : Nat) = 2 from rfl]
  clear hl3 hb3 hy hz HF2
  go_wp2_with fail
  go_ret
  exact ⟨rfl, HB3.out⟩

set_option maxRecDepth 100000 in
set_option maxHeartbeats 4000000 in
theorem okeeps_good (FD : FldAs) (q k : Nat) (s : Int) (a3 : Option Addr) (c3 : Nat) (zs : List Int) (c : Int) (w : World) (hg : GoodAt q (k + 1) s) (hs1 : -9223372036854775808 ≤ s) (hs2 : s ≤ 9223372036854775807) (hlen : zs.length ≤ 17592186043904) (hfit : Fits zs) (hl : Lst w.heap.size w a3 c3 zs) (hc1 : -9223372036854775808 ≤ c) (hc2 : c ≤ 9223372036854775807) :
    Calls Try.prog 3 #[.int .i64 q, .int .i64 ((2 ^ (k + 1) : Nat) : Int), .int .i64 s, .slice a3 zs.length c3, .int .i64 c] w fun e w' => e = .returned (.bool true) ∧ Below w.heap.size w w' := by
  obtain ⟨i0, hi, hz0, hz1, hz2⟩ := info_parts Try.infoInt
  have HFD := hid FD
  have HL := hid hl
  have HFT := hid hfit
  have h3 := hg.h3
  have h4 := hg.h4
  have hk := two_pow_le hg.hk
  have h2k : 2 ^ (k + 1) = 2 * 2 ^ k := by rw [Nat.pow_succ]; omega
  have hpos : 0 < 2 ^ k := Nat.two_pow_pos k
  have HPL := hid (fun W => plain5_yes q k s W hg hs1 hs2)
  obtain ⟨m, hm⟩ : ∃ m, m = 2 ^ k := ⟨_, rfl⟩
  rw [h2k, ← hm] at hk
  rw [← hm] at hpos
  simp only [← hm] at HPL
  obtain ⟨N, hN⟩ : ∃ N, N = zs.length := ⟨_, rfl⟩
  have HNN := hid hN
  rw [← hN] at hlen ⊢
  obtain ⟨t, ht⟩ : ∃ t, t = s % (q : Int) := ⟨_, rfl⟩
  simp only [← ht] at HPL
  generalize ((2 ^ (k + 1) : Nat) : Int) = n at *
  clear FD hl hfit hg h2k hm hN ht
  go_enter Try.func3, Try.ntmps3
  go_wp2_with fail
  refine (lives5_any HFD.out w).mono ?_
  rintro e w0 ⟨rfl, hb0⟩
  have HB0 := hid hb0
  clear hb0
  go_wp2_with fail
  refine (HPL.out w0).mono ?_
  rintro e w1 ⟨b, d, h, r, rfl, _, hD, hb1⟩
  have HD1 := hid hD
  have HB1 : Hid (Below w.heap.size w w1) := HB0.out.trans (hb1.mono HB0.out.size)
  have HV1 : Hid (Calls Try.prog 8 #[.pointer (some ⟨d, 0, none⟩), .slice a3 N c3] w1 fun e w' => ∃ g, e = .returned (.slice (some ⟨g, 0, none⟩) (2 * m) (2 * m)) ∧ Lst w'.heap.size w' (some ⟨g, 0, none⟩) (2 * m) (vlz q (2 * m) r t zs) ∧ Below w1.heap.size w1 w') := by
    have h := values_lst hD.dom a3 c3 zs (by rw [← HNN.out]; omega) HFT.out ((HL.out.below HB1.out).mono HB1.out.size).row
    rw [← HNN.out] at h
    exact h
  clear hD hb1 HB0 HPL
  obtain ⟨n2, hn2⟩ : ∃ n2, n2 = 2 * m := ⟨_, rfl⟩
  rw [← hn2] at HV1
  have HN2 := hid hn2
  clear hn2
  go_wp2_with fail
  refine HV1.out.mono ?_
  rintro e w2 ⟨g, rfl, hl2, hb2⟩
  have HD2 := hid (HD1.out.step hb2)
  have HB2 : Hid (Below w.heap.size w w2) := HB1.out.trans (hb2.mono HB1.out.size)
  obtain ⟨M, hM⟩ : ∃ M, M = (N + 1) / 2 := ⟨_, rfl⟩
  obtain ⟨B, hB⟩ : ∃ B : Nat → Int, B = fun j => (zat zs (2 * j + 1) * c % (q : Int) + zat zs (2 * j)) % (q : Int) := ⟨_, rfl⟩
  have HBB := hid hB
  obtain ⟨L, hL⟩ : ∃ L, L = vlz q m ((r : Int) * (r : Int) % (q : Int)) (t * t % (q : Int)) (ls B M) := ⟨_, rfl⟩
  have HLL := hid hL
  have HLN : Hid (L.length = m) := by unfold Hid; rw [hL, vlz_len]
  have HF2 : Hid (Calls Try.prog 9 #[.pointer (some ⟨d, 0, none⟩), .slice (some ⟨g, 0, none⟩) n2 n2, .int .i64 c] w2 fun e w' => ∃ a' c', e = .returned (.tuple #[.slice a' m c', .nilIface]) ∧ Lst w'.heap.size w' a' c' L ∧ Below w2.heap.size w2 w') := by
    have h := HFD.out q b d (2 * m) (2 * m) (some ⟨g, 0, none⟩) r t c (vlz q (2 * m) r t zs) w2 HD2.out.dom (by rw [vlz_len]; omega) (vlz_fits h3 h4 _ _ _ _) (by rw [← HN2.out]; rw [HN2.out] at hl2 ⊢; exact hl2) hc1 hc2
    rw [vlz_len] at h
    refine (show Calls _ _ #[_, .slice (some ⟨g, 0, none⟩) n2 n2, _] _ _ from by rw [HN2.out]; exact h).mono ?_
    rintro e w' ⟨h1, h2, _⟩
    obtain ⟨a', c', e1, e2⟩ := h2 ⟨rfl, by omega⟩
    rw [show 2 * m / 2 = m from by omega] at e1 e2
    refine ⟨a', c', e1, ?_, h1⟩
    rw [HD2.out.dom.fold_vlz zs c M (by rw [← HNN.out]; omega) B (fun j hj => by
      rw [hB]
      unfold Fol.evod
      refine Fol.dvdt (Pol.emod_dvd q _) ?_
      have := Pol.emod_dvd q (zat zs (2 * j + 1) * c)
      rwa [show ∀ a b x y z : Int, a + b - (b + z) = a - z from fun a b x y z => by omega, Int.mul_comm c]; all_goals exact 0), ← hL] at e2
    exact e2
  clear hl2 hb2 HV1 hB hL
  go_wp2_with fail
  refine HF2.out.mono ?_
  rintro e w3 ⟨aw, cw, rfl, hl3, hb3⟩
  have HD3 := hid (HD2.out.step hb3)
  have HB3 : Hid (Below w.heap.size w w3) := HB2.out.trans (hb3.mono HB2.out.size)
  have HL3 := hid hl3
  clear hl3 hb3 HF2 HD2 HB2
  go_wp2_with fail
  go_loopw [18, 19] (fun v iv wr => ∃ j : Nat, j ≤ M ∧ iv = .int .i64 ((2 * j : Nat) : Int) ∧ Hid (wr.ownsRow w3.heap.size 3 1 v (ls B j).length ((ls B j).map (Value.int .i64)) ∧ Below w3.heap.size w3 wr)) (fun _ iv _ => N + 1 - (intOf iv).toNat)
  case atStart => exact ⟨0, by omega, rfl, World.ownsRow_nil _ _ _ _, Below.refl _ _⟩
  case round =>
    obtain ⟨j, hj, rfl, hI⟩ := hrel
    by_cases hlt : 2 * j < N
    · obtain ⟨i, hij⟩ : ∃ i, i = 2 * j := ⟨_, rfl⟩
      rw [← hij] at hlt ⊢
      have HIJ := hid hij
      have hlt2 : (i : Int) < (N : Int) := by omega
      have hiw : IntKind.i64.wrap ((i : Int) + 1) = ((i + 1 : Nat) : Int) := by rw [IntKind.wrap_i64]; omega
      have hiw2 : IntKind.i64.wrap ((i : Int) + 2) = ((i + 2 : Nat) : Int) := by rw [IntKind.wrap_i64]; omega
      have hbw := HB3.out.trans (hI.out.2.mono HB3.out.size)
      obtain ⟨b3, o3, hae, hb3, hx⟩ := HL.out.row i (by rw [← HNN.out]; exact hlt)
      have HAT : Hid (Calls Try.prog 10 #[.slice a3 N c3, .int .i64 ((i + 1 : Nat) : Int)] wr fun e w' => e = .returned (.int .i64 (zat zs (i + 1))) ∧ w' = wr) := by
        have h := rat_any c3 (i + 1) (· < wr.heap.size) a3 zs wr (((HL.out.below hbw).mono hbw.size).row.p (fun _ h => h))
        rw [← HNN.out] at h
        exact h
      subst hae
      have x1 := (hbw.cell (p := ⟨b3, o3 + i, none⟩) hb3).trans hx
      obtain ⟨f1, f2⟩ := HFT.out.all i
      obtain ⟨f3, f4⟩ := HFT.out.all (i + 1)
      obtain ⟨x, hx0⟩ : ∃ x, x = zat zs i := ⟨_, rfl⟩
      obtain ⟨y, hy0⟩ : ∃ y, y = zat zs (i + 1) := ⟨_, rfl⟩
      rw [← hx0] at x1 f1 f2
      rw [← hy0] at HAT f3 f4
      have hcl := (HD3.out.dom.step (hI.out.2)).hp
      have HMU := hid (mul_any q b y c wr h3 h4 hcl f3 f4 hc1 hc2)
      obtain ⟨g1, g2⟩ := emod_bounds (y * c) q h3
      have HBJ : Hid (B j = (y * c % (q : Int) + x) % (q : Int)) := by unfold Hid; rw [HBB.out, hx0, hy0, hij]
      generalize y * c % (q : Int) = yc at *
      have HAD := hid (add_any q b yc x wr h3 h4 hcl (by omega) (by omega) f1 f2)
      rw [← HBJ.out] at HAD
      have HSC := hid (ls_succ B j)
      generalize B j = z at *
      obtain ⟨i1, hi1⟩ : ∃ i1, i1 = i + 1 := ⟨_, rfl⟩
      rw [← hi1] at hiw HAT
      have hown := hI.out.1
      have hbel := hI.out.2
      have HLS := hid (ls_len B j)
      generalize ls B j = Z at *
      have hZ : Z.length ≤ 17592186043904 := by rw [HLS.out]; omega
      have hsz : w3.heap.size ≤ wr.heap.size := hbel.size
      clear hI hx hx0 hy0 hij hi1 HBJ hbw hcl
      go_wp2_with fail
      refine HAT.out.mono ?_
      rintro e w4 ⟨rfl, rfl⟩
      go_wp2_with fail
      refine HMU.out.mono ?_
      rintro e w4 ⟨rfl, rfl⟩
      go_wp2_with fail
      refine HAD.out.mono ?_
      rintro e w4 ⟨rfl, rfl⟩
      go_wp2_with (at_builtin; refine wpList_append_own _ rfl _ _ 22 rfl w3.heap.size 3 i0 (.int .i64 0) 1 8 Try.underlying22 hi hz0 hz1 hz2 rfl (by decide) _ _ _ rfl (hown.alloc _) ⟨w4.heap.size, 0, none⟩ 1 1 [.int .i64 z] rfl rfl ?c1 ?c2 ?c3 ?c4 ?c5 ?_)
      case c1 =>
        intro j u hj
        match j, hj with
        | 0, hj => simp at hj; subst hj; simp [Addr.add]
      case c2 => intro u hu; simp at hu; subst hu; rfl
      case c3 => unfold maxLen; omega
      case c4 => omega
      case c5 => simp; omega
      intro v' w5 hown2 hgrow _
      have hown3 := owns_succ hown2
      have HE : Hid (w5.ownsRow w3.heap.size 3 1 v' (ls B (j + 1)).length ((ls B (j + 1)).map (Value.int .i64)) ∧ Below w3.heap.size w3 w5) := by
        unfold Hid
        rw [HSC.out]
        exact ⟨hown3, (hbel.alloc hsz _).grown hgrow (by simp; omega) (fun j hj => (hown.lt j hj).1)⟩
      have hjM : j + 1 ≤ M := by have := HIJ.out; omega
      clear hown2 hown3 hgrow hown hbel
      go_wp2_with fail
      go_roundw
      case rel => exact ⟨j + 1, hjM, by rw [HIJ.out]; rfl, HE⟩
      case measure => simp [intOf]; omega
    · obtain rfl : j = M := by omega
      have hlt2 : ¬ ((2 * j : Nat) : Int) < (N : Int) := by omega
      obtain ⟨av, cv, hv, hlv⟩ := lst_of_owns hI.out.1
      rw [ls_len] at hv
      subst hv
      have HBE := hid hI.out.2
      have HB4 : Hid (Below w.heap.size w wr) := HB3.out.trans (HBE.out.mono HB3.out.size)
      have HD4 := hid (HD3.out.step HBE.out)
      have HV4 : Hid (Calls Try.prog 8 #[.pointer (some ⟨h, 0, none⟩), .slice av j cv] wr fun e w' => ∃ g, e = .returned (.slice (some ⟨g, 0, none⟩) m m) ∧ Lst w'.heap.size w' (some ⟨g, 0, none⟩) m L ∧ Below wr.heap.size wr w') := by
        have h := values_lst HD4.out.half av cv (ls B j) (by rw [ls_len]; omega) (fun i hi => by
          rw [ls_len] at hi
          rw [ls_at _ _ _ hi, HBB.out]
          have := emod_bounds (zat zs (2 * i + 1) * c % (q : Int) + zat zs (2 * i)) q h3
          show _ ≤ (zat zs (2 * i + 1) * c % (q : Int) + zat zs (2 * i)) % (q : Int) ∧ (zat zs (2 * i + 1) * c % (q : Int) + zat zs (2 * i)) % (q : Int) ≤ _
          omega) hlv.row
        rw [ls_len, ← HLL.out] at h
        exact h
      obtain ⟨i2, hi2⟩ : ∃ i2, i2 = 2 * j := ⟨_, rfl⟩
      rw [← hi2] at hlt2 ⊢
      have HM := hid hM
      clear hI hlv hi2 hM
      go_wp2_with fail
      refine HV4.out.mono ?_
      rintro e w5 ⟨g5, rfl, hl5, hb5⟩
      have HB5 : Hid (Below w.heap.size w w5) := HB4.out.trans (hb5.mono HB4.out.size)
      have HLW := ((HL3.out.below HBE.out).mono HBE.out.size).below hb5
      have HIN : Hid (Calls Try.prog 13 #[.slice aw m cw, .slice (some ⟨g5, 0, none⟩) m m] w5 fun e w' => e = .returned (.bool true) ∧ ∃ n, w' = w5.drewN n) := by
        have h := ints_same _ _ L aw (some ⟨g5, 0, none⟩) cw m w5 HLW.row hl5.row (by rw [HLN.out]; omega)
        rw [HLN.out] at h
        exact h
      clear hl5 hb5 HV4 HLW
      go_wp2_with fail
      refine HIN.out.mono ?_
      rintro e w6 ⟨rfl, n6, rfl⟩
      clear HIN
      go_wp2_with fail
      go_ret
      exact ⟨rfl, below_drewN HB5.out n6⟩

set_option maxRecDepth 100000 in
theorem okeeps_walk (FD : FldAs) (p n s : Int) (a3 : Option Addr) (c3 : Nat) (zs : List Int) (c : Int) (w : World) (hp1 : -9223372036854775808 ≤ p) (hp2 : p ≤ 9223372036854775807) (hn1 : -9223372036854775808 ≤ n) (hn2 : n ≤ 9223372036854775807) (hs1 : -9223372036854775808 ≤ s) (hs2 : s ≤ 9223372036854775807) (hlen : zs.length ≤ 17592186043904) (hfit : Fits zs) (hl : Lst w.heap.size w a3 c3 zs) (hc1 : -9223372036854775808 ≤ c) (hc2 : c ≤ 9223372036854775807) :
    Calls Try.prog 3 #[.int .i64 p, .int .i64 n, .int .i64 s, .slice a3 zs.length c3, .int .i64 c] w fun e w' => e = .returned (.bool true) ∧ Below w.heap.size w w' := by
  by_cases hg : Good5 p n s
  · obtain ⟨q, k, rfl, rfl, hg⟩ := hg
    exact okeeps_good FD q k s a3 c3 zs c w hg hs1 hs2 hlen hfit hl hc1 hc2
  · have HFD := hid FD
    clear FD hlen hfit hl
    go_enter Try.func3, Try.ntmps3
    go_wp2_with fail
    refine (lives5_any HFD.out w).mono ?_
    rintro e w0 ⟨rfl, hb0⟩
    have HB0 := hid hb0
    clear hb0
    go_wp2_with fail
    refine (plain5_no p n s w0 hg hp1 hp2 hn1 hn2 hs1 hs2).mono ?_
    rintro e w1 ⟨rfl, hb1⟩
    have HB1 : Hid (Below w.heap.size w w1) := HB0.out.trans (hb1.mono HB0.out.size)
    clear hb1
    go_wp2_with fail
    go_ret
    exact ⟨rfl, HB1.out⟩

end Go.Proofs.Ytbbjbhiihfnkmah
