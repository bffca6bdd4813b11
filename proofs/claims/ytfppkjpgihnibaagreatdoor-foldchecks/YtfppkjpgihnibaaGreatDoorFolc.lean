/- attestref5: Fault, pairs, modulo, places. attestref5: places, Shows. Openings in memory; attestref5.path. attestref5.Check. attestref5.Check, where it has as many Roots as rounds. attestref5.Check, where it has more or fewer Roots than rounds; attestsame.Folds. -/
import Derived.Test.YtfppkjpgihnibaaGreatDoorFolR
import Derived.Test.YtfppkjpgihnibaaGreatDoorChnA
import Derived.Test.YtfppkjpgihnibaaGreatDoorTres
import Derived.Test.YtfppkjpgihnibaaGreatDoorTreI
namespace Go.Proofs.YtfppkjpgihnibaaGreatDoor
open Go.RowKit

/-! ## each once, ascending -/
def insz (x : Int) : List Int → List Int
  | [] => [x]
  | y :: r => if x < y then x :: y :: r else if x = y then y :: r else y :: insz x r
theorem mem_insz (x z : Int) : ∀ os : List Int, z ∈ insz x os ↔ z = x ∨ z ∈ os
  | [] => by simp [insz]
  | y :: r => by
    unfold insz
    split
    · simp
    · split
      · rename_i h; subst h; simp
      · simp only [List.mem_cons, mem_insz x z r]
        constructor
        · rintro (h | h | h)
          · exact .inr (.inl h)
          · exact .inl h
          · exact .inr (.inr h)
        · rintro (h | h | h)
          · exact .inr (.inl h)
          · exact .inl h
          · exact .inr (.inr h)
theorem asc_insz (x : Int) : ∀ os : List Int, Asc os → Asc (insz x os)
  | [], _ => by simp [insz, Asc]
  | y :: r, h => by
    have h1 := List.pairwise_cons.1 h
    unfold insz
    split
    · rename_i hx
      refine List.pairwise_cons.2 ⟨fun z hz => ?_, h⟩
      rcases List.mem_cons.1 hz with rfl | hz
      · exact hx
      · have := h1.1 z hz; omega
    · split
      · exact h
      · refine List.pairwise_cons.2 ⟨fun z hz => ?_, asc_insz x r h1.2⟩
        rcases (mem_insz x z r).1 hz with rfl | hz
        · omega
        · exact h1.1 z hz
def onc (ps : List Int) : List Int := ps.foldr insz []
theorem onc_is (ps : List Int) : OnceIs ps (onc ps) := by
  induction ps with
  | nil => exact ⟨by simp [onc, Asc], fun x => by simp [onc]⟩
  | cons a r ih =>
    refine ⟨asc_insz a _ ih.1, fun x => ?_⟩
    show x ∈ insz a (onc r) ↔ _
    rw [mem_insz, List.mem_cons, ih.2]
theorem onc_eq {ps os : List Int} (h : OnceIs ps os) : os = onc ps := h.unique (onc_is ps)

/-! ## Fault -/
/-- a power of 2, at most so great -/
def twb (h : Nat) (k : Int) : Bool := (List.range 17).any (fun j => decide (2 ^ j ≤ h ∧ k = ((2 ^ j : Nat) : Int)))
theorem twb_iff {h : Nat} {k : Int} (hh : h ≤ 65536) : twb h k = true ↔ ∃ j : Nat, 2 ^ j ≤ h ∧ k = ((2 ^ j : Nat) : Int) := by
  unfold twb
  rw [List.any_eq_true]
  constructor
  · rintro ⟨j, _, hj⟩
    exact ⟨j, of_decide_eq_true hj⟩
  · rintro ⟨j, h1, h2⟩
    refine ⟨j, List.mem_range.2 ?_, decide_eq_true ⟨h1, h2⟩⟩
    rcases Nat.lt_or_ge 16 j with g | g
    · have : 2 ^ 17 ≤ 2 ^ j := Nat.pow_le_pow_right (by omega) g
      omega
    · omega
def fz5 (N : Nat) (k asked : Int) : Int := if 2 ≤ N ∧ twb (N / 2) k = true ∧ 1 ≤ asked ∧ asked ≤ 64 then 0 else 2

set_option maxRecDepth 100000 in
set_option maxHeartbeats 1000000 in
theorem rfault5_any (N : Nat) (p s r k asked : Int) (w : World) (hN : N ≤ 65536) :
    Calls Tryz.prog 9 #[.agg #[.int .i64 p, .int .i64 (N : Int), .int .i64 s, .int .i64 r], .int .i64 k, .int .i64 asked] w fun e w' => e = .returned (.int .i64 (fz5 N k asked)) ∧ Below w.heap.size w w' := by
  have HB0 : Hid (Below w.heap.size w (w.alloc (.cells #[.int .i64 p, .int .i64 (N : Int), .int .i64 s, .int .i64 r] 26))) := (Below.refl _ _).alloc (Nat.le_refl _) _
  have d1 := four1 (heap_alloc_new w (.cells #[.int .i64 p, .int .i64 (N : Int), .int .i64 s, .int .i64 r] 26))
  obtain ⟨h, hh⟩ : ∃ h, h = N / 2 := ⟨_, rfl⟩
  have q0 : (N : Int) / 2 = (h : Int) := by omega
  have q1 : (N : Int).tdiv 2 = (h : Int) := by rw [Int.tdiv_eq_ediv_of_nonneg (by omega)]; omega
  have q2 : IntKind.i64.wrap (h : Int) = (h : Int) := by rw [IntKind.wrap_i64]; omega
  have hh2 : h ≤ 32768 := by omega
  have HFZ : Hid (fz5 N k asked = if 2 ≤ N ∧ twb h k = true ∧ 1 ≤ asked ∧ asked ≤ 64 then 0 else 2) := by unfold Hid fz5; rw [hh]
  obtain ⟨FZ, hFZ⟩ : ∃ FZ, FZ = fz5 N k asked := ⟨_, rfl⟩
  rw [← hFZ] at HFZ ⊢
  clear hh hFZ
  go_enter Tryz.func9, Tryz.ntmps9
  go_wp2_with fail
  generalize w.alloc (.cells #[.int .i64 p, .int .i64 (N : Int), .int .i64 s, .int .i64 r] 26) = W0 at *
  go_loop [7, 8] (fun tv nv => ∃ (j M : Nat) (t : Bool), nv = .int .i64 (M : Int) ∧ tv = .bool t ∧ 1 ≤ M ∧ M ≤ 65536 ∧ Hid (M = 2 ^ j ∧ (t = true ↔ ∃ i, i < j ∧ k = ((2 ^ i : Nat) : Int)) ∧ (∀ i, i < j → 2 ^ i ≤ h))) (fun _ nv => 65537 - (intOf nv).toNat)
  case atStart => exact ⟨0, 1, false, rfl, rfl, by omega, by omega, rfl, by simp, fun i hi => by omega⟩
  case round =>
    obtain ⟨j, M, t, rfl, rfl, hM1, hM2, hI⟩ := hrel
    by_cases hlt : M ≤ h
    · have hlt2 : (M : Int) ≤ (h : Int) := by omega
      have hw : IntKind.i64.wrap ((M : Int) * 2) = (M : Int) * 2 := by rw [IntKind.wrap_i64]; omega
      obtain ⟨t', ht'⟩ : ∃ t', t' = (t || decide ((M : Int) = k)) := ⟨_, rfl⟩
      have HE : Hid (M * 2 = 2 ^ (j + 1) ∧ (t' = true ↔ ∃ i, i < j + 1 ∧ k = ((2 ^ i : Nat) : Int)) ∧ (∀ i, i < j + 1 → 2 ^ i ≤ h)) := by
        obtain ⟨e1, e2, e3⟩ := hI.out
        refine ⟨by rw [Nat.pow_succ, ← e1], ?_, fun i hi => ?_⟩
        · rw [ht', Bool.or_eq_true, e2, decide_eq_true_eq]
          constructor
          · rintro (⟨i, h1, h2⟩ | h)
            · exact ⟨i, by omega, h2⟩
            · exact ⟨j, by omega, by rw [← e1]; exact h.symm⟩
          · rintro ⟨i, h1, h2⟩
            by_cases e : i = j
            · right; rw [e1, h2, e]
            · exact .inl ⟨i, by omega, h2⟩
        · by_cases e : i = j
          · rw [e, ← e1]; exact hlt
          · exact e3 i (by omega)
      have hM3 : M * 2 ≤ 65536 := by omega
      clear hI
      cases t with
      | true =>
        obtain rfl : t' = true := by simpa using ht'
        clear ht'
        go_wp2_with fail
        go_round
        case rel => exact ⟨j + 1, M * 2, true, by go_num, rfl, by omega, hM3, HE⟩
        case measure => simp [intOf]; omega
      | false =>
        by_cases he : (M : Int) = k
        · obtain rfl : t' = true := by simpa [he] using ht'
          have he2 : ((M : Int) == k) = true := by simp [he]
          clear ht' he
          go_wp2_with fail
          go_round
          case rel => exact ⟨j + 1, M * 2, true, by go_num, rfl, by omega, hM3, HE⟩
          case measure => simp [intOf]; omega
        · obtain rfl : t' = false := by simpa [he] using ht'
          have he2 : ((M : Int) == k) = false := by simp [he]
          clear ht' he
          go_wp2_with fail
          go_round
          case rel => exact ⟨j + 1, M * 2, false, by go_num, rfl, by omega, hM3, HE⟩
          case measure => simp [intOf]; omega
    · have hlt2 : ¬ (M : Int) ≤ (h : Int) := by omega
      have HTW : Hid (twb h k = t) := by
        obtain ⟨e1, e2, e3⟩ := hI.out
        unfold Hid
        rw [Bool.eq_iff_iff, twb_iff (by omega), e2]
        constructor
        · rintro ⟨i, h1, h2⟩
          refine ⟨i, ?_, h2⟩
          rcases Nat.lt_or_ge i j with g | g
          · exact g
          · have : 2 ^ j ≤ 2 ^ i := Nat.pow_le_pow_right (by omega) g
            omega
        · rintro ⟨i, h1, h2⟩
          exact ⟨i, e3 i h1, h2⟩
      clear hI
      rw [HTW.out] at HFZ
      by_cases u1 : (N : Int) < 2
      · have HE : Hid (FZ = 2) := by unfold Hid; rw [HFZ.out, if_neg (by omega)]
        go_wp2_with fail
        go_ret
        exact ⟨by rw [HE.out]; rfl, HB0.out⟩
      cases t with
      | false =>
        have HE : Hid (FZ = 2) := by unfold Hid; rw [HFZ.out, if_neg (by simp)]
        go_wp2_with fail
        go_ret
        exact ⟨by rw [HE.out]; rfl, HB0.out⟩
      | true =>
        by_cases u2 : asked < 1
        · have HE : Hid (FZ = 2) := by unfold Hid; rw [HFZ.out, if_neg (by omega)]
          go_wp2_with fail
          go_ret
          exact ⟨by rw [HE.out]; rfl, HB0.out⟩
        by_cases u3 : asked > 64
        · have HE : Hid (FZ = 2) := by unfold Hid; rw [HFZ.out, if_neg (by omega)]
          go_wp2_with fail
          go_ret
          exact ⟨by rw [HE.out]; rfl, HB0.out⟩
        have HE : Hid (FZ = 0) := by unfold Hid; rw [HFZ.out, if_pos ⟨by omega, rfl, by omega, by omega⟩]
        go_wp2_with fail
        go_ret
        exact ⟨by rw [HE.out]; rfl, HB0.out⟩

/-! ## pairs -/
/-! ## modulo -/
def mdz (l : List Int) (n : Nat) : List Int := onc (l.map (· % (n : Int)))
theorem mdz_in {l : List Int} {n : Nat} (hn : 0 < n) : ∀ x, x ∈ mdz l n → 0 ≤ x ∧ x < (n : Int) := fun x hx => by
  obtain ⟨y, _, rfl⟩ := List.mem_map.1 (((onc_is _).2 x).1 hx)
  exact ⟨Int.emod_nonneg _ (by omega), Int.emod_lt_of_pos _ (by omega)⟩

set_option maxRecDepth 100000 in
set_option maxHeartbeats 1000000 in
theorem rmodulo_any (cap n : Nat) (a : Option Addr) (l : List Int) (w : World) (hn : 0 < n) (hn2 : n ≤ 65536) (hl : l.length ≤ 17592186043904) (hf : ∀ j, j < l.length → 0 ≤ zat l j ∧ zat l j ≤ 9223372036854775807) (hrow : RowB w.heap.size w a l) :
    Calls Tryz.prog 50 #[.slice a l.length cap, .int .i64 (n : Int)] w fun e w' => ∃ v, e = .returned v ∧ w'.ownsRow w.heap.size 3 1 v (mdz l n).length ((mdz l n).map (Value.int .i64)) ∧ Below w.heap.size w w' := by
  obtain ⟨i0, hi, hz0, hz1, hz2⟩ := info_parts Tryz.infoInt
  have HR := hid hrow
  have HF := hid hf
  obtain ⟨N, hN⟩ : ∃ N, N = l.length := ⟨_, rfl⟩
  have HNN := hid hN
  rw [← hN] at hl ⊢
  obtain ⟨G, hG⟩ : ∃ G : Nat → Int, G = fun i => zat l i % (n : Int) := ⟨_, rfl⟩
  have HMP : Hid (l.map (· % (n : Int)) = ls G N) := by
    unfold Hid ls
    rw [hG, hN]
    apply List.ext_getElem
    · simp
    · intro i h1 h2
      simp at h1
      simp [zat, h1]
  have HGG : Hid (∀ i, G i = zat l i % (n : Int)) := fun i => by rw [hG]
  have hn0 : ¬ (n : Int) = 0 := by omega
  clear hrow hf hN hG
  go_enter Tryz.func50, Tryz.ntmps50
  go_wp2_with fail
  go_loopw [5, 6] (fun v iv wr => ∃ k : Nat, k ≤ N ∧ iv = .int .i64 k ∧ Hid (wr.ownsRow w.heap.size 3 1 v (ls G k).length ((ls G k).map (Value.int .i64)) ∧ Below w.heap.size w wr)) (fun _ iv _ => N - (intOf iv).toNat)
  case atStart => exact ⟨0, by omega, rfl, World.ownsRow_nil _ _ _ _, Below.refl _ _⟩
  case round =>
    obtain ⟨k, hk, rfl, hI⟩ := hrel
    by_cases hlt : k < N
    · have hlt2 : (k : Int) < (N : Int) := by omega
      have hks : IntKind.i64.wrap ((k : Int) + 1) = (k : Int) + 1 := by rw [IntKind.wrap_i64]; omega
      obtain ⟨b, o, rfl, hb, hc⟩ := HR.out k (by rw [← HNN.out]; exact hlt)
      have hc2 := (hI.out.2.cell (p := ⟨b, o + k, none⟩) hb).trans hc
      obtain ⟨f1, f2⟩ := HF.out k (by rw [← HNN.out]; exact hlt)
      have HGk := hid (HGG.out k)
      have HSC := hid (ls_succ G k)
      have HLS := hid (ls_len G k)
      generalize zat l k = x at *
      have m1 : x.tmod (n : Int) = x % (n : Int) := Int.tmod_eq_emod_of_nonneg f1
      have m2 := Int.emod_nonneg x hn0
      have m3 := Int.emod_lt_of_pos x (show 0 < (n : Int) by omega)
      have m4 : IntKind.i64.wrap (x % (n : Int)) = x % (n : Int) := by rw [IntKind.wrap_i64]; omega
      rw [HGk.out] at HSC
      generalize x % (n : Int) = z at *
      have hown := hI.out.1
      have hbel := hI.out.2
      generalize ls G k = Z at *
      have hZ : Z.length ≤ 17592186043904 := by rw [HLS.out]; omega
      have hsz : w.heap.size ≤ wr.heap.size := hbel.size
      clear hI hc HGk
      go_wp2_with (at_builtin; refine wpList_append_own _ rfl _ _ 22 rfl w.heap.size 3 i0 (.int .i64 0) 1 8 Tryz.underlying22 hi hz0 hz1 hz2 rfl (by decide) _ _ _ rfl (hown.alloc _) ⟨wr.heap.size, 0, none⟩ 1 1 [.int .i64 z] rfl rfl ?c1 ?c2 ?c3 ?c4 ?c5 ?_)
      case c1 =>
        intro j u hj
        match j, hj with
        | 0, hj => simp at hj; subst hj; simp [Addr.add]
      case c2 => intro u hu; simp at hu; subst hu; rfl
      case c3 => unfold maxLen; omega
      case c4 => omega
      case c5 => simp; omega
      intro v' w5 hown2 hgrow _
      have hown3 := owns_succ hown2
      have HE : Hid (w5.ownsRow w.heap.size 3 1 v' (ls G (k + 1)).length ((ls G (k + 1)).map (Value.int .i64)) ∧ Below w.heap.size w w5) := by
        unfold Hid
        rw [HSC.out]
        exact ⟨hown3, (hbel.alloc hsz _).grown hgrow (by simp; omega) (fun j hj => (hown.lt j hj).1)⟩
      clear hown2 hown3 hgrow hown hbel
      go_wp2_with fail
      go_roundw
      case rel => exact ⟨k + 1, by omega, by go_num, HE⟩
      case measure => simp [intOf]; omega
    · obtain rfl : k = N := by omega
      have hlt2 : ¬ (k : Int) < (k : Int) := by omega
      obtain ⟨a1, c1, hv1, hl1⟩ := lst_of_owns hI.out.1
      subst hv1
      have HON : Hid (Calls Tryz.prog 105 #[.slice a1 (ls G k).length c1] wr fun e w' => ∃ v, e = .returned v ∧ w'.ownsRow w.heap.size 3 1 v (mdz l n).length ((mdz l n).map (Value.int .i64)) ∧ Below w.heap.size w w') := by
        refine (ronce_any c1 a1 (ls G k) wr (by rw [ls_len]; omega) hl1.row).mono ?_
        rintro e w' ⟨v, os, rfl, h1, h2, h3⟩
        have : os = mdz l n := by unfold mdz; rw [HMP.out]; exact onc_eq h1
        subst this
        exact ⟨v, rfl, World.ownsRow.mono h2 hI.out.2.size, hI.out.2.trans (h3.mono hI.out.2.size)⟩
      generalize (ls G k).length = Lk at *
      clear hI hl1
      go_wp2_with fail
      refine HON.out.mono ?_
      rintro e w6 ⟨v6, rfl, ho6, hb6⟩
      have HE : Hid (w6.ownsRow w.heap.size 3 1 v6 (mdz l n).length ((mdz l n).map (Value.int .i64)) ∧ Below w.heap.size w w6) := ⟨ho6, hb6⟩
      clear ho6 hb6 HON
      go_wp2_with fail
      go_ret
      exact ⟨_, rfl, HE.out⟩

end Go.Proofs.YtfppkjpgihnibaaGreatDoor

namespace Go.Proofs.YtfppkjpgihnibaaGreatDoor
open Go.RowKit

theorem RCn.below {q : Nat} {w w' : World} {r : Nat} {D : List Int} {lo : Nat} (h : RCn q w r D lo) (e : Below w.heap.size w w') : RCn q w' r D lo := by
  obtain ⟨g, c, h1, h2, h3⟩ := h
  exact ⟨g, c, (e.block _ (Array.getElem?_eq_some_iff.1 h1).1).trans h1, h2.below e, h3⟩

set_option maxRecDepth 100000 in
set_option maxHeartbeats 1000000 in
theorem rplace_new (q n r : Nat) (N : Int) (D : List Int) (w : World) (h5 : 5 ≤ q) (h4 : q ≤ 2147483647) (hpn : Spo.PowIs q n) (hlen : D.length ≤ 17592186044000) (hfd : Fits D) (hr : RCh q w r D) (hN1 : 1 ≤ N) (hN2 : N ≤ 65536) :
    Calls Tryz.prog 104 #[.pointer (some ⟨r, 0, none⟩), .int .i64 N] w fun e w' => e = .returned (.int .i64 ((zat (digl q n (4 :: D)) 0 * q + zat (digl q n (4 :: D)) 1) % N)) ∧ RCn q w' r (digl q n (4 :: D)) w.heap.size ∧ w.grownBy w' (some r) := by
  have HS := hid (rstep_new q n r 0 4 none [] D w h5 h4 hpn (by omega) (by simpa using hlen) hfd (fun j hj => by simp at hj) hr (numL_nil w).1)
  rw [List.append_nil, List.length_nil] at HS
  have t1 : ¬ N < 1 := by omega
  have t2 : ¬ 65536 < N := by omega
  have hbd : ∀ j, j < 4 → 0 ≤ zat (digl q n (4 :: D)) j ∧ zat (digl q n (4 :: D)) j < (q : Int) := fun j hj => by
    unfold digl
    rw [ls_at _ _ _ hj]
    have := hst_bounds q n (pdf q (zat (4 :: D)) (4 :: D).length) ((4 :: D).length / 4 + 1) j (by omega)
    omega
  have hz0 := hbd 0 (by omega)
  have hz1 := hbd 1 (by omega)
  clear hpn hfd hr hbd
  go_enter Tryz.func104, Tryz.ntmps104
  go_wp2_with fail
  refine HS.out.mono ?_
  rintro e w1 ⟨rfl, hr, hg⟩
  have HE : Hid (RCn q w1 r (digl q n (4 :: D)) w.heap.size ∧ w.grownBy w1 (some r)) := ⟨hr, hg⟩
  obtain ⟨a, c, hb, hn⟩ := hr.rch
  rw [digl_len] at hb
  have c0 := duo0 hb
  have c1 := duo1 hb
  obtain ⟨g, o, rfl, _, hc0⟩ := hn.1.row 0 (by rw [digl_len]; omega)
  obtain ⟨_, _, e1, _, hc1⟩ := hn.1.row 1 (by rw [digl_len]; omega)
  cases e1
  rw [Nat.add_zero] at hc0
  clear hg HS hb hn hr
  obtain ⟨x, hx⟩ : ∃ x, x = zat (digl q n (4 :: D)) 0 := ⟨_, rfl⟩
  obtain ⟨y, hy⟩ : ∃ y, y = zat (digl q n (4 :: D)) 1 := ⟨_, rfl⟩
  rw [← hx] at hc0 hz0
  rw [← hy] at hc1 hz1
  have HX := hid hx
  have HY := hid hy
  clear hx hy
  have hx2 : x * (q : Int) ≤ 2147483647 * 2147483647 := Int.mul_le_mul (by omega) (by omega) (by omega) (by omega)
  have hx0 : 0 ≤ x * (q : Int) := Int.mul_nonneg hz0.1 (by omega)
  obtain ⟨m, hm⟩ : ∃ m, m = x * (q : Int) := ⟨_, rfl⟩
  have HM := hid hm
  have hm2 := hm.symm
  rw [← hm] at hx2 hx0
  clear hm
  have hw1 : IntKind.i64.wrap m = m := by rw [IntKind.wrap_i64]; omega
  have hw2 : IntKind.i64.wrap (m + y) = m + y := by rw [IntKind.wrap_i64]; omega
  have hN0 : ¬ N = 0 := by omega
  have hte : (m + y).tmod N = (m + y) % N := Int.tmod_eq_emod_of_nonneg (by omega)
  have hw3 : IntKind.i64.wrap ((m + y) % N) = (m + y) % N := by
    rw [IntKind.wrap_i64]
    have := Int.emod_nonneg (m + y) hN0
    have := Int.emod_lt_of_pos (m + y) (show 0 < N by omega)
    omega
  go_wp2_with fail
  go_quiet (fail)
  go_wp2_with fail
  go_ret
  exact ⟨by rw [← HX.out, ← HY.out, ← HM.out]; rfl, HE.out.1.below (below_drewN (Below.refl _ _) _), gb_trans HE.out.2 (gb_below (below_drewN (Below.refl _ _) _))⟩

/-- a chain behind some places -/
def pld (q n : Nat) : Nat → List Int → List Int
  | 0, D => D
  | i + 1, D => digl q n (4 :: pld q n i D)
def plz (q n N : Nat) (D : List Int) (i : Nat) : Int := (zat (pld q n (i + 1) D) 0 * q + zat (pld q n (i + 1) D) 1) % (N : Int)
theorem pld_len {q n : Nat} {D : List Int} (h : D.length ≤ 17592186044000) : ∀ i, (pld q n i D).length ≤ 17592186044000
  | 0 => h
  | i + 1 => by rw [pld, digl_len]; omega
theorem pld_fits {q n : Nat} (h3 : 3 ≤ q) (h4 : q ≤ 2147483647) {D : List Int} (h : Fits D) : ∀ i, Fits (pld q n i D)
  | 0 => h
  | i + 1 => by rw [pld]; exact digl_fits h3 h4 _ _
theorem plz_bounds {q n N : Nat} (hN : 0 < N) (D : List Int) (i : Nat) : 0 ≤ plz q n N D i ∧ plz q n N D i < (N : Int) := ⟨Int.emod_nonneg _ (by omega), Int.emod_lt_of_pos _ (by omega)⟩

set_option maxRecDepth 100000 in
set_option maxHeartbeats 1000000 in
theorem rplaces_any (q n r N m : Nat) (s rr : Int) (D : List Int) (w : World) (h5 : 5 ≤ q) (h4 : q ≤ 2147483647) (hpn : Spo.PowIs q n) (hlen : D.length ≤ 17592186044000) (hfd : Fits D) (hr : RCh q w r D) (hN1 : 2 ≤ N) (hN2 : N ≤ 65536) (hm : m ≤ 1000) :
    Calls Tryz.prog 49 #[.pointer (some ⟨r, 0, none⟩), .agg #[.int .i64 q, .int .i64 (N : Int), .int .i64 s, .int .i64 rr], .int .i64 (m : Int)] w fun e w' => ∃ v, e = .returned v ∧ RCh q w' r (pld q n m D) ∧ w'.ownsRow w.heap.size 3 1 v (ls (plz q n (N / 2) D) m).length ((ls (plz q n (N / 2) D) m).map (Value.int .i64)) ∧ w.grownBy w' (some r) := by
  obtain ⟨i0, hi, hz0, hz1, hz2⟩ := info_parts Tryz.infoInt
  have HPN := hid hpn
  have HLN : Hid (∀ i, (pld q n i D).length ≤ 17592186044000) := pld_len hlen
  have HFT : Hid (∀ i, Fits (pld q n i D)) := pld_fits (by omega) h4 hfd
  have hrl := hr.lt
  have hb0 : Below w.heap.size w (w.alloc (.cells #[.int .i64 q, .int .i64 (N : Int), .int .i64 s, .int .i64 rr] 26)) := (Below.refl _ _).alloc (Nat.le_refl _) _
  have HB0 := hid hb0
  have HR0 := hid (hr.below hb0)
  have HQ0 : Hid ((w.alloc (.cells #[.int .i64 q, .int .i64 (N : Int), .int .i64 s, .int .i64 rr] 26)).heap[w.heap.size]? = some (.cells #[.int .i64 q, .int .i64 (N : Int), .int .i64 s, .int .i64 rr] 26 (0, 0))) := heap_alloc_new w _
  have hsz : w.heap.size < (w.alloc (.cells #[.int .i64 q, .int .i64 (N : Int), .int .i64 s, .int .i64 rr] 26)).heap.size := by simp
  obtain ⟨h, hh⟩ : ∃ h, h = N / 2 := ⟨_, rfl⟩
  have q0 : (N : Int) / 2 = (h : Int) := by omega
  have q1 : (N : Int).tdiv 2 = (h : Int) := by rw [Int.tdiv_eq_ediv_of_nonneg (by omega)]; omega
  have q2 : IntKind.i64.wrap (h : Int) = (h : Int) := by rw [IntKind.wrap_i64]; omega
  have hh1 : 1 ≤ h := by omega
  have hh2 : h ≤ 65536 := by omega
  rw [← hh]
  obtain ⟨G, hG⟩ : ∃ G, G = plz q n h D := ⟨_, rfl⟩
  rw [← hG]
  have HGP : Hid (∀ i, G i = (zat (digl q n (4 :: pld q n i D)) 0 * q + zat (digl q n (4 :: pld q n i D)) 1) % (h : Int)) := fun i => by rw [hG]; rfl
  clear hpn hlen hfd hr hb0 hh hG
  go_enter Tryz.func49, Tryz.ntmps49
  go_wp2_with fail
  generalize w.alloc (.cells #[.int .i64 q, .int .i64 (N : Int), .int .i64 s, .int .i64 rr] 26) = W0 at *
  go_loopw [7, 8] (fun v iv wr => ∃ k : Nat, k ≤ m ∧ iv = .int .i64 k ∧ Hid (RCh q wr r (pld q n k D) ∧ wr.ownsRow W0.heap.size 3 1 v (ls G k).length ((ls G k).map (Value.int .i64)) ∧ W0.grownBy wr (some r))) (fun _ iv _ => m - (intOf iv).toNat)
  case atStart => exact ⟨0, by omega, rfl, HR0.out, World.ownsRow_nil _ _ _ _, gb_refl _ _⟩
  case round =>
    obtain ⟨k, hk, rfl, hI⟩ := hrel
    by_cases hlt : k < m
    · have hlt2 : (k : Int) < (m : Int) := by omega
      have hks : IntKind.i64.wrap ((k : Int) + 1) = (k : Int) + 1 := by rw [IntKind.wrap_i64]; omega
      have hq := (gb_blk hI.out.2.2 hsz (by omega)).trans HQ0.out
      have d1 := four1 hq
      have HPL := hid (rplace_new q n r (h : Int) (pld q n k D) wr h5 h4 HPN.out (HLN.out k) (HFT.out k) hI.out.1 (by omega) (by omega))
      rw [← HGP.out k] at HPL
      have HSC := hid (ls_succ G k)
      have HLS := hid (ls_len G k)
      generalize G k = z at *
      have HII := hI
      have hW0 : W0.heap.size ≤ wr.heap.size := hI.out.2.2.size
      clear hI hq
      go_wp2_with fail
      refine HPL.out.mono ?_
      rintro e w1 ⟨rfl, hrc, hg1⟩
      have hob : ∀ (v : Value) (xs : List Value) (n' : Nat), wr.ownsRow W0.heap.size 3 1 v n' xs → v.ownBlock = none ∨ v.ownBlock ≠ some r := fun v xs n' ho => by
        rcases ho.2 with ⟨rfl, _⟩ | ⟨g, cap, cur, rfl, _, hg, _⟩
        · exact .inl rfl
        · right
          intro e
          simp [Value.ownBlock] at e
          subst e
          exact HII.out.1.not _ _ hg
      have hown := HII.out.2.1.kept hg1 (hob _ _ _ HII.out.2.1)
      have holt := HII.out.2.1.lt
      have hg0 := gb_trans HII.out.2.2 hg1
      have hne := hob _ _ _ HII.out.2.1
      have hrn := hrc.below ((Below.refl _ _).alloc (Nat.le_refl _) (.cells #[.int .i64 z] 3))
      have hs1 := hg1.size
      generalize ls G k = Z at *
      have hZ : Z.length ≤ 17592186043904 := by rw [HLS.out]; omega
      clear HII HPL hrc hg1 hob
      go_wp2_with (at_builtin; refine wpList_append_own _ rfl _ _ 22 rfl W0.heap.size 3 i0 (.int .i64 0) 1 8 Tryz.underlying22 hi hz0 hz1 hz2 rfl (by decide) _ _ _ rfl (hown.alloc _) ⟨w1.heap.size, 0, none⟩ 1 1 [.int .i64 z] rfl rfl ?c1 ?c2 ?c3 ?c4 ?c5 ?_)
      case c1 =>
        intro j u hj
        match j, hj with
        | 0, hj => simp at hj; subst hj; simp [Addr.add]
      case c2 => intro u hu; simp at hu; subst hu; rfl
      case c3 => unfold maxLen; omega
      case c4 => omega
      case c5 => simp; omega
      intro v' w5 hown2 hgrow _
      have hown3 := owns_succ hown2
      have HE : Hid (RCh q w5 r (pld q n (k + 1) D) ∧ w5.ownsRow W0.heap.size 3 1 v' (ls G (k + 1)).length ((ls G (k + 1)).map (Value.int .i64)) ∧ W0.grownBy w5 (some r)) := by
        refine ⟨hrn.own hgrow (fun e => ?_) (fun g hg => (holt g hg).2), by rw [HSC.out]; exact hown3, ?_⟩
        · rcases hne with h0 | h0
          · rw [h0] at e; cases e
          · exact h0 e.symm
        · have hg2 : (w1.alloc (.cells #[.int .i64 z] 3)).heap.size = w1.heap.size + 1 := by simp
          refine ⟨hgrow.os.trans hg0.os, hgrow.tape.trans hg0.tape, hgrow.output.trans hg0.output, by have := hgrow.size; have := hg0.size; omega, fun b hb hbr => ?_⟩
          have := hg0.size
          refine (hgrow.block b (by omega) (fun e => ?_)).trans ((Below.heap_alloc w1 _ b (by omega)).trans (hg0.block b hb hbr))
          have := (holt b e.symm).1
          omega
      clear hown2 hown3 hgrow hown holt hg0 hne hrn
      go_wp2_with fail
      go_roundw
      case rel => exact ⟨k + 1, by omega, by go_num, HE⟩
      case measure => simp [intOf]; omega
    · obtain rfl : k = m := by omega
      have hlt2 : ¬ (k : Int) < (k : Int) := by omega
      have HE : Hid (RCh q wr r (pld q n k D) ∧ (∃ v, v = v) ∧ W0.grownBy wr (some r)) := ⟨hI.out.1, ⟨0, rfl⟩, hI.out.2.2⟩
      have HO := hid (World.ownsRow.mono hI.out.2.1 HB0.out.size)
      clear hI
      go_wp2_with fail
      go_ret
      exact ⟨_, rfl, HE.out.1, HO.out, gb_trans (gb_below HB0.out) HE.out.2.2⟩

/-- does an Opening show just these places? -/
noncomputable def shz5 (q n : Nat) (root : List Int) (N : Int) (ps : List Int) (rows nodes : List (List Int)) (pl : List Int) (wd : Int) : Bool :=
  decide (ps = pl) && decide (∀ k, k < rows.length → ((rat rows k).length : Int) = wd) && chkf q n root N ps rows nodes
theorem lists_eq {xs ys : List Int} (hl : xs.length = ys.length) (h : ∀ j, j < ys.length → zat xs j = zat ys j) : xs = ys := by
  apply List.ext_getElem hl
  intro i h1 h2
  have := h i h2
  simpa [zat, h1, h2] using this

set_option maxRecDepth 100000 in
set_option maxHeartbeats 2000000 in
theorem rshows_any (q n : Nat) (h5 : 5 ≤ q) (h4 : q ≤ 2147483647) (hpn : Spo.PowIs q n) (c4 cp cr cn cl : Nat) (a4 ap ar an' al : Option Addr) (root : List Int) (N wd : Int) (ps : List Int) (rows nodes : List (List Int)) (pl : List Int) (w : World) (h4l : root.length ≤ 281474976710656) (hps : ps.length ≤ 281474976710656) (hrl : rows.length ≤ 281474976710656) (hnl : nodes.length ≤ 281474976710656) (hpl : pl.length ≤ 281474976710656)
    (hf4 : Fits root) (hfr : FitsR rows) (hfn : FitsR nodes) (hr4 : RowB w.heap.size w a4 root) (hrp : RowB w.heap.size w ap ps) (hlr : LstR w.heap.size w ar cr rows) (hln : LstR w.heap.size w an' cn nodes) (hll : RowB w.heap.size w al pl) :
    Calls Tryz.prog 63 #[.int .i64 q, .slice a4 root.length c4, .int .i64 N, .agg #[.slice ap ps.length cp, .slice ar rows.length cr, .slice an' nodes.length cn], .slice al pl.length cl, .int .i64 wd] w fun e w' => e = .returned (.bool (shz5 q n root N ps rows nodes pl wd)) ∧ Below w.heap.size w w' := by
  obtain ⟨W0, hW0⟩ : ∃ W0, W0 = w.alloc (.cells #[.slice ap ps.length cp, .slice ar rows.length cr, .slice an' nodes.length cn] 107) := ⟨_, rfl⟩
  have hb0 : Below w.heap.size w W0 := by rw [hW0]; exact (Below.refl _ _).alloc (Nat.le_refl _) _
  have hO := tri_new w 107 (.slice ap ps.length cp) (.slice ar rows.length cr) (.slice an' nodes.length cn)
  rw [← hW0] at hO
  have HCK : Hid (∀ W, Below W0.heap.size W0 W → Calls Tryz.prog 120 #[.int .i64 q, .slice a4 root.length c4, .int .i64 N, .slice ap ps.length cp, .slice ar rows.length cr, .slice an' nodes.length cn] W fun e w' => e = .returned (.bool (chkf q n root N ps rows nodes)) ∧ Below W.heap.size W w') := fun W hb => by
    have hbw := hb0.trans (hb.mono hb0.size)
    exact rcheck_any q n h5 h4 hpn c4 cp cr cn a4 ap ar an' root N ps rows nodes W h4l hps hnl hf4 hfr hfn ((hr4.below hbw).mono hbw.size) ((hrp.below hbw).mono hbw.size) ((hlr.below hbw).mono hbw.size) ((hln.below hbw).mono hbw.size)
  have HRP := hid ((hrp.below hb0).mono hb0.size)
  have HLL := hid ((hll.below hb0).mono hb0.size)
  have HLR := hid ((hlr.below hb0).mono hb0.size)
  have HB0 := hid hb0
  obtain ⟨SZ, hSZ⟩ : ∃ SZ, SZ = shz5 q n root N ps rows nodes pl wd := ⟨_, rfl⟩
  have HSZ := hid hSZ
  rw [← hSZ]
  have k0 := hO.cell (i := 0) (by omega)
  have k1 := hO.cell (i := 1) (by omega)
  have k2 := hO.cell (i := 2) (by omega)
  simp only [tri] at k0 k1 k2
  have hOl := hO.lt
  obtain ⟨pn, hpn2⟩ : ∃ pn, pn = ps.length := ⟨_, rfl⟩
  obtain ⟨rn, hrn⟩ : ∃ rn, rn = rows.length := ⟨_, rfl⟩
  obtain ⟨nn, hnn⟩ : ∃ nn, nn = nodes.length := ⟨_, rfl⟩
  obtain ⟨ln, hln2⟩ : ∃ ln, ln = pl.length := ⟨_, rfl⟩
  obtain ⟨rt, hrt⟩ : ∃ rt, rt = root.length := ⟨_, rfl⟩
  have HPN := hid hpn2
  have HRN := hid hrn
  have HNN := hid hnn
  have HLN := hid hln2
  have HRT := hid hrt
  rw [← hpn2] at hps k0
  rw [← hrn] at hrl k1
  rw [← hnn] at hnl k2
  rw [← hln2] at hpl
  rw [← hpn2, ← hrn, ← hnn, ← hrt] at HCK
  rw [← hpn2, ← hrn, ← hnn] at hW0
  rw [← hpn2, ← hrn, ← hnn, ← hln2, ← hrt]
  clear hf4 hfr hfn hr4 hrp hlr hln hll hb0 hO hSZ hpn2 hrn hnn hln2 hrt h4l hpn
  by_cases hl : pn = ln
  · subst hl
    have u1 : ((pn : Int) != (pn : Int)) = false := by simp
    go_enter Tryz.func63, Tryz.ntmps63
    go_wp2_with fail
    rw [← hW0]
    clear hW0
    go_loopw [13] (fun iv wr => ∃ k nd : Nat, k ≤ pn ∧ iv = .int .i64 k ∧ Hid ((∀ j, j < k → zat ps j = zat pl j) ∧ wr = W0.drewN nd)) (fun iv _ => pn - (intOf iv).toNat)
    case atStart => exact ⟨0, 0, by omega, rfl, fun j hj => by omega, rfl⟩
    case round =>
      obtain ⟨k, nd, hk, rfl, hI⟩ := hrel
      have x0 : wr.cell? ⟨w.heap.size, 0, none⟩ = some (.slice ap pn cp) := by rw [hI.out.2]; exact k0
      by_cases hlt : k < pn
      · have hlt2 : (k : Int) < (pn : Int) := by omega
        have hks : IntKind.i64.wrap ((k : Int) + 1) = (k : Int) + 1 := by rw [IntKind.wrap_i64]; omega
        obtain ⟨b1, o1, rfl, _, hx⟩ := HRP.out k (by rw [← HPN.out]; exact hlt)
        obtain ⟨b2, o2, rfl, _, hy⟩ := HLL.out k (by rw [← HLN.out]; exact hlt)
        have hx2 : wr.cell? ⟨b1, o1 + k, none⟩ = some (.int .i64 (zat ps k)) := by rw [hI.out.2]; exact hx
        have hy2 : wr.cell? ⟨b2, o2 + k, none⟩ = some (.int .i64 (zat pl k)) := by rw [hI.out.2]; exact hy
        by_cases he : zat ps k = zat pl k
        · have HE : Hid (∀ j, j < k + 1 → zat ps j = zat pl j) := fun j hj => by
            by_cases e : j = k
            · rw [e]; exact he
            · exact hI.out.1 j (by omega)
          have HW := hid hI.out.2
          rw [← he] at hy2
          have he2 : (zat ps k != zat ps k) = false := by simp
          generalize zat ps k = x at *
          clear hI hx hy he
          go_wp2_with fail
          go_quiet (fail)
          go_wp2_with fail
          go_roundw
          case rel => exact ⟨k + 1, _, by omega, by go_num, HE.out, by rw [HW.out, World.drewN_drewN]⟩
          case measure => simp [intOf]; omega
        · have he2 : (zat ps k != zat pl k) = true := by simp [he]
          have HE : Hid (SZ = false) := by
            unfold Hid
            rw [HSZ.out]
            unfold shz5
            rw [decide_eq_false (fun e => he (by rw [e]))]
            rfl
          have HBE : Hid (Below w.heap.size w wr) := by unfold Hid; rw [hI.out.2]; exact below_drewN HB0.out _
          generalize zat ps k = x at *
          generalize zat pl k = y at *
          clear hI hx hy he
          go_wp2_with fail
          go_quiet (fail)
          go_wp2_with fail
          go_ret
          exact ⟨by rw [HE.out]; rfl, below_drewN HBE.out _⟩
      · obtain rfl : k = pn := by omega
        have hlt2 : ¬ (k : Int) < (k : Int) := by omega
        have HEQ : Hid (ps = pl) := lists_eq (by rw [← HPN.out, ← HLN.out]) (fun j hj => hI.out.1 j (by rw [HLN.out]; exact hj))
        obtain ⟨W1, hW1⟩ : ∃ W1, W1 = wr := ⟨_, rfl⟩
        have hbr : Below W0.heap.size W0 wr := by rw [hI.out.2]; exact below_drewN (Below.refl _ _) _
        have x1 : wr.cell? ⟨w.heap.size, 1, none⟩ = some (.slice ar rn cr) := (hbr.cell (p := ⟨w.heap.size, 1, none⟩) hOl).trans k1
        have x2 : wr.cell? ⟨w.heap.size, 2, none⟩ = some (.slice an' nn cn) := (hbr.cell (p := ⟨w.heap.size, 2, none⟩) hOl).trans k2
        have HLR1 := hid ((HLR.out.below hbr).mono hbr.size)
        have HC1 := hid (HCK.out wr hbr)
        have HBR : Hid (Below w.heap.size w wr) := HB0.out.trans (hbr.mono HB0.out.size)
        clear hI hbr HCK hW1
        go_wp2_with fail
        go_loop [14] (fun iv => ∃ j : Nat, j ≤ rn ∧ iv = .int .i64 j ∧ Hid (∀ i, i < j → ((rat rows i).length : Int) = wd)) (fun iv => rn - (intOf iv).toNat)
        case atStart => exact ⟨0, by omega, rfl, fun i hi => by omega⟩
        case round =>
          obtain ⟨j, hj, rfl, hJ⟩ := hrel
          by_cases hjt : j < rn
          · have hjt2 : (j : Int) < (rn : Int) := by omega
            have hjw : IntKind.i64.wrap ((j : Int) + 1) = (j : Int) + 1 := by rw [IntKind.wrap_i64]; omega
            obtain ⟨b3, o3, ak, ck, rfl, _, hc3, _⟩ := HLR1.out.row j (by rw [← HRN.out]; exact hjt)
            by_cases he : ((rat rows j).length : Int) = wd
            · have HE : Hid (∀ i, i < j + 1 → ((rat rows i).length : Int) = wd) := fun i hi => by
                by_cases e : i = j
                · rw [e]; exact he
                · exact hJ.out i (by omega)
              have he2 : (((rat rows j).length : Int) != wd) = false := by simp [he]
              generalize (rat rows j).length = L at *
              clear hJ he
              go_wp2_with fail
              go_round
              case rel => exact ⟨j + 1, by omega, by go_num, HE⟩
              case measure => simp [intOf]; omega
            · have he2 : (((rat rows j).length : Int) != wd) = true := by simp [he]
              have HE : Hid (SZ = false) := by
                unfold Hid
                rw [HSZ.out]
                unfold shz5
                have hno : decide (∀ k, k < rows.length → ((rat rows k).length : Int) = wd) = false := decide_eq_false (fun h => he (h j (by rw [← HRN.out]; exact hjt)))
                rw [hno]
                simp
              generalize (rat rows j).length = L at *
              clear hJ he
              go_wp2_with fail
              go_ret
              exact ⟨by rw [HE.out]; rfl, HBR.out⟩
          · obtain rfl : j = rn := by omega
            have hjt2 : ¬ (j : Int) < (j : Int) := by omega
            have HE : Hid (SZ = chkf q n root N ps rows nodes) := by
              unfold Hid
              rw [HSZ.out]
              unfold shz5
              rw [decide_eq_true HEQ.out, decide_eq_true (fun i hi => hJ.out i (by rw [HRN.out]; exact hi))]
              rfl
            generalize chkf q n root N ps rows nodes = CF at *
            clear hJ
            go_wp2_with fail
            refine HC1.out.mono ?_
            rintro e w5 ⟨rfl, hb5⟩
            have HB5 : Hid (Below w.heap.size w w5) := HBR.out.trans (hb5.mono HBR.out.size)
            clear hb5 HC1
            go_wp2_with fail
            go_ret
            exact ⟨by rw [HE.out]; rfl, HB5.out⟩
  · have u1 : ((pn : Int) != (ln : Int)) = true := by simp; omega
    have HE : Hid (SZ = false) := by
      unfold Hid
      rw [HSZ.out]
      unfold shz5
      rw [decide_eq_false (fun e => hl (by rw [HPN.out, HLN.out, e]))]
      rfl
    clear hl
    rw [hW0] at HB0
    clear hW0
    go_enter Tryz.func63, Tryz.ntmps63
    go_wp2_with fail
    go_ret
    exact ⟨by rw [HE.out]; rfl, HB0.out⟩

end Go.Proofs.YtfppkjpgihnibaaGreatDoor

namespace Go.Proofs.YtfppkjpgihnibaaGreatDoor
open Go.RowKit

/-- an Opening -/
structure OnZ where
  ps : List Int
  rows : List (List Int)
  nodes : List (List Int)
def onat (s : List OnZ) (k : Nat) : OnZ := s.getD k ⟨[], [], []⟩
/-- Openings in memory -/
structure LstF (n0 : Nat) (w : World) (a : Option Addr) (cap : Nat) (s : List OnZ) : Prop where
  row : ∀ k, k < s.length → ∃ b o ap cp ar cr an' cn, a = some ⟨b, o, none⟩ ∧ b < n0 ∧ w.cell? ⟨b, o + k * 3, none⟩ = some (.slice ap (onat s k).ps.length cp) ∧ w.cell? ⟨b, o + k * 3 + 1, none⟩ = some (.slice ar (onat s k).rows.length cr) ∧ w.cell? ⟨b, o + k * 3 + 2, none⟩ = some (.slice an' (onat s k).nodes.length cn) ∧ Lst n0 w ap cp (onat s k).ps ∧ LstR n0 w ar cr (onat s k).rows ∧ LstR n0 w an' cn (onat s k).nodes
  room : s.length ≤ cap
  nil : a = none → cap = 0
theorem LstF.below {n0 : Nat} {A B : World} {a : Option Addr} {cap : Nat} {s : List OnZ} (r : LstF n0 A a cap s) (h : Below n0 A B) : LstF n0 B a cap s :=
  ⟨fun k hk => by
    obtain ⟨b, o, ap, cp, ar, cr, an', cn, h1, h2, h3, h4, h5, h6, h7, h8⟩ := r.row k hk
    exact ⟨b, o, ap, cp, ar, cr, an', cn, h1, h2, (h.cell (p := ⟨b, o + k * 3, none⟩) h2).trans h3, (h.cell (p := ⟨b, o + k * 3 + 1, none⟩) h2).trans h4, (h.cell (p := ⟨b, o + k * 3 + 2, none⟩) h2).trans h5, h6.below h, h7.below h, h8.below h⟩, r.room, r.nil⟩
theorem LstF.mono {n0 n1 : Nat} {A : World} {a : Option Addr} {cap : Nat} {s : List OnZ} (r : LstF n0 A a cap s) (h : n0 ≤ n1) : LstF n1 A a cap s :=
  ⟨fun k hk => by
    obtain ⟨b, o, ap, cp, ar, cr, an', cn, h1, h2, h3, h4, h5, h6, h7, h8⟩ := r.row k hk
    exact ⟨b, o, ap, cp, ar, cr, an', cn, h1, by omega, h3, h4, h5, h6.mono h, h7.mono h, h8.mono h⟩, r.room, r.nil⟩

theorem thr0 {W : World} {g : Nat} {a b c : Value} {t : TypeId} (h : W.heap[g]? = some (.cells #[a, b, c] t (0, 0))) : W.cell? ⟨g, 0, none⟩ = some a := by simp [World.cell?, h]
theorem thr1 {W : World} {g : Nat} {a b c : Value} {t : TypeId} (h : W.heap[g]? = some (.cells #[a, b, c] t (0, 0))) : W.cell? ⟨g, 1, none⟩ = some b := by simp [World.cell?, h]
theorem thr2 {W : World} {g : Nat} {a b c : Value} {t : TypeId} (h : W.heap[g]? = some (.cells #[a, b, c] t (0, 0))) : W.cell? ⟨g, 2, none⟩ = some c := by simp [World.cell?, h]
theorem fourF {W : World} {g : Nat} {a b c d : Value} {t : TypeId} (h : W.heap[g]? = some (.cells #[a, b, c, d] t (0, 0))) (i : Nat) : W.frozen? ⟨g, i, none⟩ = false := by simp [World.frozen?, h]
theorem four_row {W : World} {g : Nat} {a b c d : Value} {t : TypeId} (h : W.heap[g]? = some (.cells #[a, b, c, d] t (0, 0))) : W.rowIs g t 4 (quad a b c d) :=
  ⟨#[a, b, c, d], h, rfl, fun i hi => by
    have : i = 0 ∨ i = 1 ∨ i = 2 ∨ i = 3 := by omega
    rcases this with rfl | rfl | rfl | rfl <;> rfl⟩
theorem four_put {W : World} {g : Nat} {a b c d : Value} {t : TypeId} (h : W.heap[g]? = some (.cells #[a, b, c, d] t (0, 0))) (a' b' c' d' : Value) : ((((W.setCell ⟨g, 0, none⟩ a').setCell ⟨g, 1, none⟩ b').setCell ⟨g, 2, none⟩ c').setCell ⟨g, 3, none⟩ d').heap[g]? = some (.cells #[a', b', c', d'] t (0, 0)) := quad_arr (quad_set (four_row h) a' b' c' d')

/-- squared so often -/
def sqi (q : Nat) (a : Int) : Nat → Int
  | 0 => a
  | i + 1 => sqi q a i * sqi q a i % (q : Int)
theorem sqi_bounds {q : Nat} (h3 : 3 ≤ q) {a : Int} (h0 : 0 ≤ a) (h1 : a < q) : ∀ i, 0 ≤ sqi q a i ∧ sqi q a i < q
  | 0 => ⟨h0, h1⟩
  | _ + 1 => emod_bounds _ q h3
/-- the row that an Opening shows -/
def rw5 (o : OnZ) (pl : Nat) : List Int := rat o.rows (fx o.ps (pl : Int))
def pxz (q K : Nat) (r s : Int) (os : List OnZ) (drawn : List Int) (place i : Nat) : Int := Fol.pairz q (Dom.pt q (sqi q s i) (sqi q r i) (place % 2 ^ (K - i - 1))) (zat (rw5 (onat os i) (place % 2 ^ (K - i - 1))) 0) (zat (rw5 (onat os i) (place % 2 ^ (K - i - 1))) 1) (zat drawn i)
def pyz (q K : Nat) (r s : Int) (os : List OnZ) (last : List Int) (m place i : Nat) : Int :=
  if i + 1 < m then zat (rw5 (onat os (i + 1)) (place % 2 ^ (K - i - 2))) (place % 2 ^ (K - i - 1) / 2 ^ (K - i - 2)) % (q : Int)
  else evz q last (Dom.pt q (sqi q s (i + 1)) (sqi q r (i + 1)) (place % 2 ^ (K - i - 1)))
def pthz (q K : Nat) (r s : Int) (os : List OnZ) (last drawn : List Int) (place : Nat) : Bool := decide (∀ i, i < drawn.length → pxz q K r s os drawn place i = pyz q K r s os last drawn.length place i)
/-- what an Opening has to be for a place -/
structure OnOk (o : OnZ) (pl : Nat) : Prop where
  len : o.rows.length = o.ps.length
  plen : o.ps.length ≤ 281474976710656
  two : ∀ k, k < o.rows.length → (rat o.rows k).length = 2
  fit : ∀ k, k < o.rows.length → Fits (rat o.rows k)
  is : ∃ j, j < o.ps.length ∧ zat o.ps j = (pl : Int)

/-- what stands in a round of path -/
structure PthI (q N B : Nat) (s r : Int) (vr vl vo : Value) (w W : World) : Prop where
  bel : Below w.heap.size w W
  dom : W.heap[B]? = some (.cells #[.int .i64 q, .int .i64 (N : Int), .int .i64 s, .int .i64 r] 26 (0, 0))
  obj : W.heap[B + 1]? = some (.cells #[vr, vl, vo] 36 (0, 0))
theorem PthI.step {q N B : Nat} {s r : Int} {vr vl vo : Value} {w W W' : World} (h : PthI q N B s r vr vl vo w W) (e : Below W.heap.size W W') : PthI q N B s r vr vl vo w W' :=
  ⟨h.bel.trans (e.mono h.bel.size), (e.block _ (Array.getElem?_eq_some_iff.1 h.dom).1).trans h.dom, (e.block _ (Array.getElem?_eq_some_iff.1 h.obj).1).trans h.obj⟩
theorem PthI.put {q N B : Nat} {s r : Int} {vr vl vo : Value} {w W : World} (h : PthI q N B s r vr vl vo w W) (hB : w.heap.size ≤ B) (N' : Nat) (s' r' : Int) : PthI q N' B s' r' vr vl vo w ((((W.setCell ⟨B, 0, none⟩ (.int .i64 q)).setCell ⟨B, 1, none⟩ (.int .i64 (N' : Int))).setCell ⟨B, 2, none⟩ (.int .i64 s')).setCell ⟨B, 3, none⟩ (.int .i64 r')) :=
  ⟨(((h.bel.setCell (p := ⟨B, 0, none⟩) hB _).setCell (p := ⟨B, 1, none⟩) hB _).setCell (p := ⟨B, 2, none⟩) hB _).setCell (p := ⟨B, 3, none⟩) hB _, four_put h.dom _ _ _ _, by
    rw [Below.heap_setCell _ _ _ _ (by show B + 1 ≠ B; omega), Below.heap_setCell _ _ _ _ (by show B + 1 ≠ B; omega), Below.heap_setCell _ _ _ _ (by show B + 1 ≠ B; omega), Below.heap_setCell _ _ _ _ (by show B + 1 ≠ B; omega)]
    exact h.obj⟩

set_option maxRecDepth 100000 in
set_option maxHeartbeats 8000000 in
theorem rpath_any (q K : Nat) (r s : Int) (vr : Value) (al ao ad : Option Addr) (cl co cd : Nat) (last : List Int) (os : List OnZ) (drawn : List Int) (place : Nat) (w : World) (h3 : 3 ≤ q) (h4 : q ≤ 2147483647) (hK : K ≤ 16) (hr0 : 0 ≤ r) (hr1 : r < q) (hs0 : 0 ≤ s) (hs1 : s < q)
    (hm : drawn.length ≤ K) (hmo : drawn.length ≤ os.length) (hpl : place ≤ 4611686018427387904) (hll : last.length ≤ 281474976710656) (hfl : Fits last) (hfd : Fits drawn) (hlast : RowB w.heap.size w al last) (hopens : LstF w.heap.size w ao co os) (hdrawn : RowB w.heap.size w ad drawn)
    (hok : ∀ i, i < drawn.length → OnOk (onat os i) (place % 2 ^ (K - i - 1))) :
    Calls Tryz.prog 64 #[.agg #[.int .i64 q, .int .i64 ((2 ^ K : Nat) : Int), .int .i64 s, .int .i64 r], .agg #[vr, .slice al last.length cl, .slice ao os.length co], .slice ad drawn.length cd, .int .i64 (place : Int)] w fun e w' => e = .returned (.bool (pthz q K r s os last drawn place)) ∧ Below w.heap.size w w' := by
  have HLA := hid hlast
  have HOP := hid hopens
  have HDR := hid hdrawn
  have HOK := hid hok
  have HFL := hid hfl
  have HFD := hid hfd
  obtain ⟨m, hmm⟩ : ∃ m, m = drawn.length := ⟨_, rfl⟩
  obtain ⟨mo, hmo2⟩ : ∃ mo, mo = os.length := ⟨_, rfl⟩
  obtain ⟨ml, hml⟩ : ∃ ml, ml = last.length := ⟨_, rfl⟩
  have HM := hid hmm
  have HMO := hid hmo2
  have HML := hid hml
  obtain ⟨PT, hPT⟩ : ∃ PT, PT = pthz q K r s os last drawn place := ⟨_, rfl⟩
  have HPT := hid hPT
  have hmo3 : m ≤ mo := by rw [hmm, hmo2]; exact hmo
  have hmK : m ≤ K := by rw [hmm]; exact hm
  obtain ⟨W0, hW0⟩ : ∃ W0, W0 = (w.alloc (.cells #[.int .i64 q, .int .i64 ((2 ^ K : Nat) : Int), .int .i64 s, .int .i64 r] 26)).alloc (.cells #[vr, .slice al ml cl, .slice ao mo co] 36) := ⟨_, rfl⟩
  have HI0 : Hid (PthI q (2 ^ K) w.heap.size s r vr (.slice al ml cl) (.slice ao mo co) w W0) := by
    rw [hW0]
    have h1 := heap_alloc_new w (.cells #[.int .i64 q, .int .i64 ((2 ^ K : Nat) : Int), .int .i64 s, .int .i64 r] 26)
    have h2 := heap_alloc_new (w.alloc (.cells #[.int .i64 q, .int .i64 ((2 ^ K : Nat) : Int), .int .i64 s, .int .i64 r] 26)) (.cells #[vr, .slice al ml cl, .slice ao mo co] 36)
    rw [show (w.alloc (.cells #[.int .i64 q, .int .i64 ((2 ^ K : Nat) : Int), .int .i64 s, .int .i64 r] 26)).heap.size = w.heap.size + 1 from by simp] at h2
    exact ⟨((Below.refl _ _).alloc (Nat.le_refl _) _).alloc (by simp) _, (Below.heap_alloc _ _ _ (by simp)).trans h1, h2⟩
  rw [← hmm, ← hmo2, ← hml, ← hPT]
  rw [← hml] at hll
  generalize hNK : ((2 ^ K : Nat) : Int) = NK at *
  clear hlast hopens hdrawn hok hfl hfd hmm hmo2 hml hPT hm hmo
  go_enter Tryz.func64, Tryz.ntmps64
  go_wp2_with fail
  rw [← hW0]
  clear hW0
  obtain ⟨B, hB⟩ : ∃ B, B = w.heap.size := ⟨_, rfl⟩
  have HBB : Hid (w.heap.size ≤ B) := by rw [hB]; exact Nat.le_refl _
  rw [← hB] at HI0
  have HBE : Hid (w.heap.size = B) := hB.symm
  simp only [HBE.out]
  clear hB hNK
  go_loopw [3, 9] (fun pvv iv wr => ∃ i pv : Nat, i ≤ m ∧ iv = .int .i64 i ∧ pvv = .int .i64 (pv : Int) ∧ pv ≤ 4611686018427387904 ∧ Hid (PthI q (2 ^ (K - i)) B (sqi q s i) (sqi q r i) vr (.slice al ml cl) (.slice ao mo co) w wr ∧ (∀ e, e ≤ K - i - 1 → pv % 2 ^ e = place % 2 ^ e) ∧ ∀ j, j < i → pxz q K r s os drawn place j = pyz q K r s os last m place j)) (fun _ iv _ => m - (intOf iv).toNat)
  case atStart => exact ⟨0, place, by omega, rfl, rfl, hpl, HI0.out, fun e _ => rfl, fun j hj => by omega⟩
  case round =>
    obtain ⟨i, pv, hi, rfl, rfl, hpv, hI⟩ := hrel
    by_cases hlt : i < m
    · have hlt2 : (i : Int) < (m : Int) := by omega
      obtain ⟨i1, hi1⟩ : ∃ i1, i1 = i + 1 := ⟨_, rfl⟩
      have e1 : (i : Int) + 1 = (i1 : Int) := by omega
      have e2 : IntKind.i64.wrap ((i : Int) + 1) = (i1 : Int) := by rw [IntKind.wrap_i64]; omega
      have e3 : IntKind.i64.wrap (i1 : Int) = (i1 : Int) := by rw [IntKind.wrap_i64]; omega
      have HI1 := hid hi1
      obtain ⟨hPI, hPV, hALL⟩ := hI.out
      obtain ⟨H, hH⟩ : ∃ H, H = 2 ^ (K - i - 1) := ⟨_, rfl⟩
      have hNI : 2 ^ (K - i) = 2 * H := by
        have : 2 ^ (K - i) = 2 ^ (K - i - 1 + 1) := by congr 1; omega
        rw [this, Nat.pow_succ, ← hH]; omega
      have hH1 : 1 ≤ H := by rw [hH]; exact Nat.pow_pos (by decide)
      have hH2 : H ≤ 65536 := by
        rw [hH]
        have : 2 ^ (K - i - 1) ≤ 2 ^ 16 := Nat.pow_le_pow_right (by omega) (by omega)
        omega
      obtain ⟨NI, hNI2⟩ : ∃ NI, NI = 2 * H := ⟨_, rfl⟩
      rw [hNI, ← hNI2] at hPI
      have q1 : (NI : Int).tdiv 2 = (H : Int) := by rw [Int.tdiv_eq_ediv_of_nonneg (by omega)]; omega
      have q0 : (NI : Int) / 2 = (H : Int) := by omega
      have q2 : IntKind.i64.wrap (H : Int) = (H : Int) := by rw [IntKind.wrap_i64]; omega
      have hH0 : ¬ (H : Int) = 0 := by omega
      obtain ⟨P, hP⟩ : ∃ P, P = pv % H := ⟨_, rfl⟩
      have p1 : (pv : Int).tmod (H : Int) = (P : Int) := by rw [hP]; rfl
      have p0 : (pv : Int) % (H : Int) = (P : Int) := by rw [hP]; rfl
      have hPH : P < H := by rw [hP]; exact Nat.mod_lt _ hH1
      have p2 : IntKind.i64.wrap (P : Int) = (P : Int) := by rw [IntKind.wrap_i64]; omega
      have HPE : Hid (P = place % 2 ^ (K - i - 1)) := by unfold Hid; rw [hP, hH]; exact hPV _ (Nat.le_refl _)
      have HPV2 : Hid (∀ e, e ≤ K - i1 - 1 → i1 < K → P % 2 ^ e = place % 2 ^ e) := fun e he hiK => by
        rw [HPE.out, Nat.mod_mod_of_dvd _ (Nat.pow_dvd_pow 2 (by omega))]
      have hok := HOK.out i (by rw [← HM.out]; exact hlt)
      rw [← HPE.out] at hok
      obtain ⟨bO, oO, ap, cp, ar, cr, an', cn, hae, hbO, g1, g2, g3, g4, g5, g6⟩ := HOP.out.row i (by rw [← HMO.out]; omega)
      subst hae
      have hbw := hPI.bel
      have x1 := (hbw.cell (p := ⟨bO, oO + i * 3, none⟩) hbO).trans g1
      have x2 := (hbw.cell (p := ⟨bO, oO + i * 3 + 1, none⟩) hbO).trans g2
      have x3 := (hbw.cell (p := ⟨bO, oO + i * 3 + 2, none⟩) hbO).trans g3
      have d1 := four1 hPI.dom
      have o2 := thr2 hPI.obj
      have HRW : Hid (Calls Tryz.prog 121 #[.agg #[.slice ap (onat os i).ps.length cp, .slice ar (onat os i).rows.length cr, .slice an' (onat os i).nodes.length cn], .int .i64 (P : Int)] wr fun e w' => ∃ a c, e = .returned (.slice a 2 c) ∧ Lst w'.heap.size w' a c (rw5 (onat os i) P) ∧ Below wr.heap.size wr w') := by
        refine (rrow_any cp cr ap ar (onat os i).ps (onat os i).rows (.slice an' (onat os i).nodes.length cn) (P : Int) wr hok.plen hok.len ((g4.below hbw).mono hbw.size).row ((g5.below hbw).mono hbw.size) hok.is).mono ?_
        rintro e w' ⟨a, c, rfl, h1, h2, h6, h7⟩
        refine ⟨a, c, ?_, (h1.below h7).mono h7.size, h7⟩
        rw [hok.two _ (by rw [hok.len]; exact h2)]
      have HFR : Hid (Fits (rw5 (onat os i) P) ∧ (rw5 (onat os i) P).length = 2) := by
        obtain ⟨j, hj, hz⟩ := hok.is
        have hfx : fx (onat os i).ps (P : Int) < (onat os i).rows.length := by
          rw [hok.len]
          exact (fx_spec ⟨j, hj, hz⟩).1
        exact ⟨hok.fit _ hfx, hok.two _ hfx⟩
      have HXX : Hid (pxz q K r s os drawn place i = Fol.pairz q (Dom.pt q (sqi q s i) (sqi q r i) P) (zat (rw5 (onat os i) P) 0) (zat (rw5 (onat os i) P) 1) (zat drawn i)) := by unfold Hid pxz; rw [← HPE.out]
      have HPI := hid hPI
      have HALL := hid hALL
      have HNI := hid hNI2
      have HHE := hid hH
      obtain ⟨sb0, sb1⟩ := sqi_bounds h3 hs0 hs1 i
      obtain ⟨rb0, rb1⟩ := sqi_bounds h3 hr0 hr1 i
      have HSS : Hid (sqi q s i1 = sqi q s i * sqi q s i % (q : Int)) := by unfold Hid; rw [hi1]; rfl
      have HRR : Hid (sqi q r i1 = sqi q r i * sqi q r i % (q : Int)) := by unfold Hid; rw [hi1]; rfl
      generalize sqi q s i = si at *
      generalize sqi q r i = ri at *
      generalize (onat os i).ps.length = l1 at *
      generalize (onat os i).rows.length = l2 at *
      generalize (onat os i).nodes.length = l3 at *
      generalize rw5 (onat os i) P = row1 at *
      clear hI hPI hPV hALL hok g1 g2 g3 g4 g5 g6 hbw hNI hNI2 hP hH hi1
      go_wp2_with fail
      refine HRW.out.mono ?_
      rintro e w1 ⟨a1, c1, rfl, hl1, hb1⟩
      obtain ⟨bk, ok, rfl, hbk, r0⟩ := hl1.row 0 (by rw [HFR.out.2]; omega)
      obtain ⟨_, _, ee, _, r1⟩ := hl1.row 1 (by rw [HFR.out.2]; omega)
      cases ee
      rw [Nat.add_zero] at r0
      have HP1 := hid (HPI.out.step hb1)
      obtain ⟨bd, od, hde, hbd, dx⟩ := HDR.out i (by rw [← HM.out]; exact hlt)
      subst hde
      have dx1 := (HP1.out.bel.cell (p := ⟨bd, od + i, none⟩) hbd).trans dx
      obtain ⟨f1, f2⟩ := HFR.out.1.all 0
      obtain ⟨f3, f4⟩ := HFR.out.1.all 1
      obtain ⟨f5, f6⟩ := HFD.out.all i
      clear x1 x2 x3 d1 o2 HRW HPI dx hl1 hb1
      obtain ⟨u, hu⟩ : ∃ u, u = zat row1 0 := ⟨_, rfl⟩
      obtain ⟨v, hv⟩ : ∃ v, v = zat row1 1 := ⟨_, rfl⟩
      obtain ⟨dr, hdr⟩ : ∃ dr, dr = zat drawn i := ⟨_, rfl⟩
      rw [← hu, ← hv, ← hdr] at HXX
      rw [← hu] at r0 f1 f2
      rw [← hv] at r1 f3 f4
      rw [← hdr] at dx1 f5 f6
      have HPA : Hid (∀ W, Below w1.heap.size w1 W → Calls Tryz.prog 103 #[.agg #[.int .i64 q, .int .i64 (NI : Int), .int .i64 si, .int .i64 ri], .int .i64 (P : Int), .int .i64 u, .int .i64 v, .int .i64 dr] W fun e w' => e = .returned (.int .i64 (Fol.pairz q (Dom.pt q si ri P) u v dr)) ∧ Below w1.heap.size w1 w') := fun W hb =>
        (rpair_any q P (NI : Int) ri si u v dr W h3 h4 (by omega) rb0 rb1 sb0 sb1 f1 f2 f3 f4 f5 f6).mono fun e w' h => ⟨h.1, hb.trans (h.2.mono hb.size)⟩
      generalize Fol.pairz q (Dom.pt q si ri P) u v dr = X at *
      have HKe : Hid (∀ W, Below w1.heap.size w1 W → W.cell? ⟨B, 0, none⟩ = some (.int .i64 q) ∧ W.cell? ⟨B, 1, none⟩ = some (.int .i64 (NI : Int)) ∧ W.cell? ⟨B, 2, none⟩ = some (.int .i64 si) ∧ W.cell? ⟨B, 3, none⟩ = some (.int .i64 ri) ∧ W.cell? ⟨bk, ok, none⟩ = some (.int .i64 u) ∧ W.cell? ⟨bk, ok + 1, none⟩ = some (.int .i64 v) ∧ W.cell? ⟨bd, od + i, none⟩ = some (.int .i64 dr)) := fun W hb => by
        have hd := (HP1.out.step hb).dom
        exact ⟨four0 hd, four1 hd, four2 hd, four3 hd, (hb.cell (p := ⟨bk, ok, none⟩) hbk).trans r0, (hb.cell (p := ⟨bk, ok + 1, none⟩) hbk).trans r1, (hb.cell (p := ⟨bd, od + i, none⟩) (World.block_lt_of_cell? _ _ dx1)).trans dx1⟩
      have hdd : Below w1.heap.size w1 w1.drew := (Below.refl _ _).drew
      have hy0 : (0 : Int) < 2 := by omega
      clear hu hv hdr r0 r1 dx1 f1 f2 f3 f4 f5 f6 hbk hbd
      go_wp2_with fail
      go_region_held3 (fun W => W.cell? ⟨B, 0, none⟩ = some (.int .i64 q) ∧ W.cell? ⟨B, 1, none⟩ = some (.int .i64 (NI : Int)) ∧ W.cell? ⟨B, 2, none⟩ = some (.int .i64 si) ∧ W.cell? ⟨B, 3, none⟩ = some (.int .i64 ri) ∧ W.cell? ⟨bk, ok, none⟩ = some (.int .i64 u) ∧ W.cell? ⟨bk, ok + 1, none⟩ = some (.int .i64 v) ∧ W.cell? ⟨bd, od + i, none⟩ = some (.int .i64 dr)) (exact HKe.out _ (by assumption))
        (first
          | (go_at_call 103; refine (HPA.out _ (by assumption)).mono ?_; rintro e w2 ⟨rfl, hb2⟩))
      rename_i hHeld
      have HP2 := hid (HP1.out.step hb2)
      have d0 := four0 HP2.out.dom
      have d1 := four1 HP2.out.dom
      have d2 := four2 HP2.out.dom
      have d3 := four3 HP2.out.dom
      have HHA : Hid (Calls Tryz.prog 48 #[.agg #[.int .i64 q, .int .i64 (NI : Int), .int .i64 si, .int .i64 ri]] w2 fun e w' => e = .returned (.agg #[.int .i64 q, .int .i64 (H : Int), .int .i64 (si * si % (q : Int)), .int .i64 (ri * ri % (q : Int))]) ∧ Below w2.heap.size w2 w') := by
        have := rhalf_any q H ri si w2 h3 h4 hH2 rb0 rb1 sb0 sb1
        rw [← HNI.out] at this
        exact this
      obtain ⟨ss0, ss1⟩ := emod_bounds (si * si) q h3
      obtain ⟨rr0, rr1⟩ := emod_bounds (ri * ri) q h3
      generalize si * si % (q : Int) = ss at *
      generalize ri * ri % (q : Int) = rr at *
      clear hb2 HKe HPA hdd HP1
      go_wp2_with fail
      refine HHA.out.mono ?_
      rintro e w3 ⟨rfl, hb3⟩
      have HP3 := hid (HP2.out.step hb3)
      have c0 := four0 HP3.out.dom
      have c1 := four1 HP3.out.dom
      have c2 := four2 HP3.out.dom
      have c3 := four3 HP3.out.dom
      have y0 := fourF HP3.out.dom 0
      have y1 := fourF HP3.out.dom 1
      have y2 := fourF HP3.out.dom 2
      have y3 := fourF HP3.out.dom 3
      have HP4 := hid (HP3.out.put HBB.out H ss rr)
      clear hb3 HHA HP2 d0 d1 d2 d3 HP3
      by_cases hA : i1 < m
      · have hA2 : (i1 : Int) < (m : Int) := by omega
        go_wp2_with fail
        generalize (((w3.setCell ⟨B, 0, none⟩ (.int .i64 q)).setCell ⟨B, 1, none⟩ (.int .i64 (H : Int))).setCell ⟨B, 2, none⟩ (.int .i64 ss)).setCell ⟨B, 3, none⟩ (.int .i64 rr) = W4 at *
        obtain ⟨H', hH'⟩ : ∃ H', H' = 2 ^ (K - i - 2) := ⟨_, rfl⟩
        have hKi : i + 2 ≤ K := by have := HI1.out; omega
        have hHH : H = 2 * H' := by
          have : 2 ^ (K - i - 1) = 2 ^ (K - i - 2 + 1) := by congr 1; omega
          rw [HHE.out, this, Nat.pow_succ, ← hH']; omega
        have hH1' : 1 ≤ H' := by omega
        have q1' : (H : Int).tdiv 2 = (H' : Int) := by rw [Int.tdiv_eq_ediv_of_nonneg (by omega)]; omega
        have q0' : (H : Int) / 2 = (H' : Int) := by omega
        have q2' : IntKind.i64.wrap (H' : Int) = (H' : Int) := by rw [IntKind.wrap_i64]; omega
        have hH0' : ¬ (H' : Int) = 0 := by omega
        have hH0n : ¬ H' = 0 := by omega
        have hH0b : ((H' : Int) == 0) = false := by simp; omega
        obtain ⟨P2, hP2⟩ : ∃ P2, P2 = P % H' := ⟨_, rfl⟩
        have p1' : (P : Int).tmod (H' : Int) = (P2 : Int) := by rw [hP2]; rfl
        have p0' : (P : Int) % (H' : Int) = (P2 : Int) := by rw [hP2]; rfl
        have hP2H : P2 < H' := by rw [hP2]; exact Nat.mod_lt _ hH1'
        have p2' : IntKind.i64.wrap (P2 : Int) = (P2 : Int) := by rw [IntKind.wrap_i64]; omega
        obtain ⟨T, hT⟩ : ∃ T, T = P / H' := ⟨_, rfl⟩
        have t1 : (P : Int).tdiv (H' : Int) = (T : Int) := by rw [hT]; rfl
        have t0 : (P : Int) / (H' : Int) = (T : Int) := by rw [hT]; rfl
        have hT2 : T < 2 := by rw [hT]; exact Nat.div_lt_of_lt_mul (by omega)
        have t2 : IntKind.i64.wrap (T : Int) = (T : Int) := by rw [IntKind.wrap_i64]; omega
        have t3 : (T : Int) < 2 := by omega
        have HP2E : Hid (P2 = place % 2 ^ (K - i - 2)) := by
          unfold Hid
          rw [hP2, hH']
          have := HPV2.out (K - i - 2) (by have := HI1.out; omega) (by have := HI1.out; omega)
          exact this
        have hok2 := HOK.out i1 (by rw [← HM.out]; exact hA)
        rw [show K - i1 - 1 = K - i - 2 from by have := HI1.out; omega, ← HP2E.out] at hok2
        obtain ⟨_, _, ap2, cp2, ar2, cr2, an2, cn2, hae2, _, g1, g2, g3, g4, g5, g6⟩ := HOP.out.row i1 (by rw [← HMO.out]; omega)
        cases hae2
        have HYA : Hid (pyz q K r s os last m place i = zat (rw5 (onat os i1) P2) T % (q : Int)) := by
          unfold Hid pyz
          rw [if_pos (by have := HI1.out; omega), ← HI1.out, ← HP2E.out, ← HPE.out, ← hH', ← hT]
        have HFR2 : Hid (Fits (rw5 (onat os i1) P2) ∧ (rw5 (onat os i1) P2).length = 2) := by
          have hfx : fx (onat os i1).ps (P2 : Int) < (onat os i1).rows.length := by
            rw [hok2.len]
            exact (fx_spec hok2.is).1
          exact ⟨hok2.fit _ hfx, hok2.two _ hfx⟩
        have HRW2 : Hid (∀ W, Below W4.heap.size W4 W → Calls Tryz.prog 121 #[.agg #[.slice ap2 (onat os i1).ps.length cp2, .slice ar2 (onat os i1).rows.length cr2, .slice an2 (onat os i1).nodes.length cn2], .int .i64 (P2 : Int)] W fun e w' => ∃ a c, e = .returned (.slice a 2 c) ∧ Lst w'.heap.size w' a c (rw5 (onat os i1) P2) ∧ Below W4.heap.size W4 w') := fun W hb => by
          have hbW := (HP4.out.step hb).bel
          refine (rrow_any cp2 cr2 ap2 ar2 (onat os i1).ps (onat os i1).rows (.slice an2 (onat os i1).nodes.length cn2) (P2 : Int) W hok2.plen hok2.len ((g4.below hbW).mono hbW.size).row ((g5.below hbW).mono hbW.size) hok2.is).mono ?_
          rintro e w' ⟨a, c, rfl, h1, h2, h6, h7⟩
          refine ⟨a, c, ?_, (h1.below h7).mono h7.size, hb.trans (h7.mono hb.size)⟩
          rw [hok2.two _ (by rw [hok2.len]; exact h2)]
        have HKe : Hid (∀ W, Below W4.heap.size W4 W → W.cell? ⟨B, 1, none⟩ = some (.int .i64 (H : Int)) ∧ W.cell? ⟨B + 1, 2, none⟩ = some (.slice (some ⟨bO, oO, none⟩) mo co) ∧ W.cell? ⟨bO, oO + i1 * 3, none⟩ = some (.slice ap2 (onat os i1).ps.length cp2) ∧ W.cell? ⟨bO, oO + i1 * 3 + 1, none⟩ = some (.slice ar2 (onat os i1).rows.length cr2) ∧ W.cell? ⟨bO, oO + i1 * 3 + 2, none⟩ = some (.slice an2 (onat os i1).nodes.length cn2)) := fun W hb => by
          have hs := HP4.out.step hb
          exact ⟨four1 hs.dom, thr2 hs.obj, (hs.bel.cell (p := ⟨bO, oO + i1 * 3, none⟩) hbO).trans g1, (hs.bel.cell (p := ⟨bO, oO + i1 * 3 + 1, none⟩) hbO).trans g2, (hs.bel.cell (p := ⟨bO, oO + i1 * 3 + 2, none⟩) hbO).trans g3⟩
        generalize (onat os i1).ps.length = m1 at *
        generalize (onat os i1).rows.length = m2 at *
        generalize (onat os i1).nodes.length = m3 at *
        generalize rw5 (onat os i1) P2 = row2 at *
        have hi1o : (i1 : Int) < (mo : Int) := by omega
        have hdd : Below W4.heap.size W4 W4.drew := (Below.refl _ _).drew
        clear c0 c1 c2 c3 y0 y1 y2 y3 hok2 g1 g2 g3 g4 g5 g6 hHH hP2 hT hH' hHeld
        go_region_held3 (fun W => W.cell? ⟨B, 1, none⟩ = some (.int .i64 (H : Int)) ∧ W.cell? ⟨B + 1, 2, none⟩ = some (.slice (some ⟨bO, oO, none⟩) mo co) ∧ W.cell? ⟨bO, oO + i1 * 3, none⟩ = some (.slice ap2 m1 cp2) ∧ W.cell? ⟨bO, oO + i1 * 3 + 1, none⟩ = some (.slice ar2 m2 cr2) ∧ W.cell? ⟨bO, oO + i1 * 3 + 2, none⟩ = some (.slice an2 m3 cn2)) (exact HKe.out _ (by assumption))
          (first
            | (go_at_call 121; refine (HRW2.out _ (by assumption)).mono ?_; rintro e w5 ⟨a5, c5, rfl, hl5, hb5⟩))
        have HP5 := hid (HP4.out.step hb5)
        obtain ⟨b5, o5, rfl, _, z5⟩ := hl5.row T (by rw [HFR2.out.2]; exact hT2)
        obtain ⟨f1, f2⟩ := HFR2.out.1.all T
        have k0 := four0 HP5.out.dom
        have k1 := four1 HP5.out.dom
        generalize zat row2 T = z at *
        have HOF := hid (fun W => rof_any q z W h3 h4 f1 f2)
        generalize z % (q : Int) = Y at *
        clear hl5 hb5 HRW2 HKe hdd HP4 f1 f2
        by_cases hXY : X = Y
        · have hxy2 : (X != Y) = false := by simp [hXY]
          have HE : Hid (∀ W, Below w5.heap.size w5 W → PthI q (2 ^ (K - i1)) B (sqi q s i1) (sqi q r i1) vr (.slice al ml cl) (.slice (some ⟨bO, oO, none⟩) mo co) w W ∧ (∀ e, e ≤ K - i1 - 1 → P % 2 ^ e = place % 2 ^ e) ∧ ∀ j, j < i1 → pxz q K r s os drawn place j = pyz q K r s os last m place j) := fun W hb => by
            refine ⟨?_, fun e he => HPV2.out e he (by omega), fun j hj => ?_⟩
            · rw [show 2 ^ (K - i1) = H from by rw [HHE.out]; congr 1; have := HI1.out; omega, HSS.out, HRR.out]
              exact HP5.out.step hb
            · by_cases e : j = i
              · rw [e, HXX.out, HYA.out, hXY]
              · exact HALL.out j (by have := HI1.out; omega)
          clear hXY
          go_wp2_with fail
          go_quiet (first
            | (go_at_call 82; exact Calls.quiet_of_same (HOF.out _)))
          go_wp2_with fail
          go_roundw
          case rel => exact ⟨i1, P, by omega, by first | rfl | go_num, rfl, by omega, HE.out _ (below_drewN (Below.refl _ _) _)⟩
          case measure => simp [intOf]; have := HI1.out; omega
        · have hxy2 : (X != Y) = true := by simp [hXY]
          have HE : Hid (PT = false) := by
            unfold Hid
            rw [HPT.out]
            unfold pthz
            rw [decide_eq_false_iff_not, ← HM.out]
            intro hall
            have := hall i hlt
            rw [HXX.out, HYA.out] at this
            exact hXY this
          have HBE2 := hid HP5.out.bel
          clear hXY
          go_wp2_with fail
          go_quiet (first
            | (go_at_call 82; exact Calls.quiet_of_same (HOF.out _)))
          go_wp2_with fail
          go_ret
          exact ⟨by rw [HE.out]; rfl, below_drewN HBE2.out _⟩
      · have hA2 : ¬ (i1 : Int) < (m : Int) := by omega
        go_wp2_with fail
        generalize (((w3.setCell ⟨B, 0, none⟩ (.int .i64 q)).setCell ⟨B, 1, none⟩ (.int .i64 (H : Int))).setCell ⟨B, 2, none⟩ (.int .i64 ss)).setCell ⟨B, 3, none⟩ (.int .i64 rr) = W4 at *
        have him : i1 = m := by have := HI1.out; omega
        have HYB : Hid (pyz q K r s os last m place i = evz q last (Dom.pt q ss rr P)) := by
          unfold Hid pyz
          rw [if_neg (by have := HI1.out; omega), ← HI1.out, HSS.out, HRR.out, ← HPE.out]
        have HPO := hid (rpoint_any q P (H : Int) rr ss W4 h3 h4 (by omega) rr0 rr1 ss0 ss1)
        have k0 := four0 HP4.out.dom
        have k1 := four1 HP4.out.dom
        have k2 := four2 HP4.out.dom
        have k3 := four3 HP4.out.dom
        obtain ⟨t0, t1⟩ : 0 ≤ Dom.pt q ss rr P ∧ Dom.pt q ss rr P < (q : Int) := emod_bounds _ q h3
        generalize Dom.pt q ss rr P = tp at *
        clear c0 c1 c2 c3 y0 y1 y2 y3
        go_wp2_with fail
        refine HPO.out.mono ?_
        rintro e w5 ⟨rfl, hb5⟩
        have HP5 := hid (HP4.out.step hb5)
        have j0 := four0 HP5.out.dom
        have j1 := thr1 HP5.out.obj
        have HEV : Hid (Calls Tryz.prog 123 #[.int .i64 q, .slice al ml cl, .int .i64 tp] w5 fun e w' => e = .returned (.int .i64 (evz q last tp)) ∧ w' = w5) := by
          have hbW := HP5.out.bel
          have := reval_any q cl (· < w5.heap.size) al last tp w5 h3 h4 (by rw [← HML.out]; exact hll) HFL.out (by omega) (by omega) ((HLA.out.below hbW).mono hbW.size)
          rw [← HML.out] at this
          exact this
        generalize evz q last tp = Y at *
        clear hb5 HPO HP4 k0 k1 k2 k3
        by_cases hXY : X = Y
        · have hxy2 : (X != Y) = false := by simp [hXY]
          have HE : Hid (PthI q (2 ^ (K - i1)) B (sqi q s i1) (sqi q r i1) vr (.slice al ml cl) (.slice (some ⟨bO, oO, none⟩) mo co) w w5 ∧ (∀ e, e ≤ K - i1 - 1 → P % 2 ^ e = place % 2 ^ e) ∧ ∀ j, j < i1 → pxz q K r s os drawn place j = pyz q K r s os last m place j) := by
            refine ⟨?_, fun e he => ?_, fun j hj => ?_⟩
            · rw [show 2 ^ (K - i1) = H from by rw [HHE.out]; congr 1; have := HI1.out; omega, HSS.out, HRR.out]
              exact HP5.out
            · by_cases hiK : i1 < K
              · exact HPV2.out e he hiK
              · obtain rfl : e = 0 := by omega
                simp [Nat.mod_one]
            · by_cases e : j = i
              · rw [e, HXX.out, HYB.out, hXY]
              · exact HALL.out j (by have := HI1.out; omega)
          clear hXY
          go_wp2_with fail
          refine HEV.out.mono ?_
          rintro e w6 ⟨rfl, rfl⟩
          go_wp2_with fail
          go_roundw
          case rel => exact ⟨i1, P, by omega, by first | rfl | go_num, rfl, by omega, HE⟩
          case measure => simp [intOf]; have := HI1.out; omega
        · have hxy2 : (X != Y) = true := by simp [hXY]
          have HE : Hid (PT = false) := by
            unfold Hid
            rw [HPT.out]
            unfold pthz
            rw [decide_eq_false_iff_not, ← HM.out]
            intro hall
            have := hall i hlt
            rw [HXX.out, HYB.out] at this
            exact hXY this
          have HBE2 := hid HP5.out.bel
          clear hXY
          go_wp2_with fail
          refine HEV.out.mono ?_
          rintro e w6 ⟨rfl, rfl⟩
          go_wp2_with fail
          go_ret
          exact ⟨by rw [HE.out]; rfl, HBE2.out⟩
    · obtain rfl : i = m := by omega
      have hlt2 : ¬ (i : Int) < (i : Int) := by omega
      have HE : Hid (PT = true ∧ Below w.heap.size w wr) := by
        refine ⟨?_, hI.out.1.bel⟩
        rw [HPT.out]
        unfold pthz
        rw [decide_eq_true_eq, ← HM.out]
        exact hI.out.2.2
      clear hI
      go_wp2_with fail
      go_ret
      exact ⟨by rw [HE.out.1]; rfl, HE.out.2⟩

end Go.Proofs.YtfppkjpgihnibaaGreatDoor

namespace Go.Proofs.YtfppkjpgihnibaaGreatDoor
open Go.RowKit

/-- what stands while the chain goes on -/
structure CkI (q NK B r : Nat) (s rr : Int) (vr vl vo : Value) (w W : World) : Prop where
  gb : w.grownBy W (some r)
  dom : W.heap[B]? = some (.cells #[.int .i64 q, .int .i64 (NK : Int), .int .i64 s, .int .i64 rr] 26 (0, 0))
  obj : W.heap[B + 1]? = some (.cells #[vr, vl, vo] 36 (0, 0))
  hr : r < B
theorem CkI.chain {q NK B r : Nat} {s rr : Int} {vr vl vo : Value} {w W W' : World} (h : CkI q NK B r s rr vr vl vo w W) (e : W.grownBy W' (some r)) : CkI q NK B r s rr vr vl vo w W' := by
  have hr := h.hr
  exact ⟨gb_trans h.gb e, (gb_blk e (Array.getElem?_eq_some_iff.1 h.dom).1 (by omega)).trans h.dom, (gb_blk e (Array.getElem?_eq_some_iff.1 h.obj).1 (by omega)).trans h.obj, hr⟩
theorem CkI.step {q NK B r : Nat} {s rr : Int} {vr vl vo : Value} {w W W' : World} (h : CkI q NK B r s rr vr vl vo w W) (e : Below W.heap.size W W') : CkI q NK B r s rr vr vl vo w W' := h.chain (gb_below e)
theorem CkI.bel {q NK B r n0 : Nat} {s rr : Int} {vr vl vo : Value} {w W : World} (h : CkI q NK B r s rr vr vl vo w W) (h1 : n0 ≤ r) (h2 : n0 ≤ w.heap.size) : Below n0 w W := gb_to h.gb h1 h2
theorem own_chain {q r base n : Nat} {W W' : World} {v : Value} {xs : List Value} {D : List Int} (h : W.ownsRow base 3 1 v n xs) (hR : RCh q W r D) (e : W.grownBy W' (some r)) : W'.ownsRow base 3 1 v n xs := h.kept e (by
  rcases h.2 with ⟨rfl, _⟩ | ⟨g, cap, cur, rfl, _, hg, _⟩
  · exact .inl rfl
  · right
    intro e
    simp [Value.ownBlock] at e
    subst e
    exact hR.not _ _ hg)

/-- the chain behind some rounds -/
def ckD (q n : Nat) (roots : List (List Int)) (D : List Int) : Nat → List Int
  | 0 => D
  | i + 1 => digl q n (4 :: digl q n (3 :: (ckD q n roots D i ++ rat roots i)))
def ckr (q n : Nat) (roots : List (List Int)) (D : List Int) (i : Nat) : Int := zat (ckD q n roots D (i + 1)) 0
def ckL (q n : Nat) (roots : List (List Int)) (last D : List Int) (m : Nat) : List Int := digl q n (3 :: (ckD q n roots D m ++ last))
def ckA (q n K : Nat) (roots : List (List Int)) (last D : List Int) (m a : Nat) : List Int := ls (plz q n (2 ^ K / 2) (ckL q n roots last D m)) a
/-- it is shown -/
def CkP (q n K J : Nat) (r s : Int) (roots : List (List Int)) (last : List Int) (os : List OnZ) (D : List Int) (a : Nat) : Prop :=
  os.length = J - 2 ∧ tpn q (zat last) last.length ≤ 2 ^ (J - (J - 2)) ∧
  (∀ i, i < J - 2 → shz5 q n (rat roots i) ((2 ^ (K - i - 1) : Nat) : Int) (onat os i).ps (onat os i).rows (onat os i).nodes (mdz (ckA q n K roots last D (J - 2) a) (2 ^ (K - i - 1))) 2 = true) ∧
  ∀ j, j < a → pthz q K r s os last (ls (ckr q n roots D) (J - 2)) (zat (ckA q n K roots last D (J - 2) a) j).toNat = true
theorem ckD_len {q n : Nat} {roots : List (List Int)} {D : List Int} (h : D.length = 4) : ∀ i, (ckD q n roots D i).length = 4
  | 0 => h
  | _ + 1 => digl_len _ _ _
theorem ckD_fits {q n : Nat} (h3 : 3 ≤ q) (h4 : q ≤ 2147483647) {roots : List (List Int)} {D : List Int} (h : Fits D) : ∀ i, Fits (ckD q n roots D i)
  | 0 => h
  | _ + 1 => digl_fits h3 h4 _ _

/-- a voucher's Openings fit -/
def FitsF5 (os : List OnZ) : Prop := ∀ k, k < os.length → (onat os k).ps.length ≤ 281474976710656 ∧ (onat os k).rows.length ≤ 281474976710656 ∧ (onat os k).nodes.length ≤ 281474976710656 ∧ FitsR (onat os k).rows ∧ FitsR (onat os k).nodes

theorem shz5_ok {q n N : Nat} {root : List Int} {o : OnZ} {l : List Int} (_hN : 0 < N) (hps : o.ps.length ≤ 281474976710656) (hfr : FitsR o.rows) (h : shz5 q n root (N : Int) o.ps o.rows o.nodes (mdz l N) 2 = true) {pl : Nat} (hpl : ((pl : Nat) : Int) ∈ l) : OnOk o (pl % N) := by
  unfold shz5 at h
  rw [Bool.and_eq_true, Bool.and_eq_true, decide_eq_true_eq, decide_eq_true_eq] at h
  obtain ⟨⟨h1, h2⟩, h3⟩ := h
  have h4 : o.rows.length = o.ps.length := by
    by_cases hc : 1 ≤ (N : Int) ∧ (N : Int) ≤ 65536 ∧ o.rows.length = o.ps.length ∧ root.length = 4 ∧ AscN (N : Int) o.ps
    · exact hc.2.2.1
    · rw [chkf_no hc] at h3
      cases h3
  refine ⟨h4, hps, fun k hk => by have := h2 k hk; omega, fun k hk => (hfr k hk).1, ?_⟩
  rw [h1]
  have hm : (((pl % N : Nat)) : Int) ∈ mdz l N := ((onc_is _).2 _).2 (List.mem_map.2 ⟨_, hpl, by rw [← Int.natCast_emod]⟩)
  obtain ⟨j, hj, hz⟩ := mem_zat hm
  exact ⟨j, hj, hz⟩

set_option maxRecDepth 100000 in
set_option maxHeartbeats 1000000 in
theorem rcheck5_bad (rch N : Nat) (p s r k asked : Int) (vo1 vo2 vo3 : Value) (w : World) (hN : N ≤ 65536) (hz : fz5 N k asked ≠ 0) :
    Calls Tryz.prog 18 #[.pointer (some ⟨rch, 0, none⟩), .agg #[.int .i64 p, .int .i64 (N : Int), .int .i64 s, .int .i64 r], .int .i64 k, .int .i64 asked, .agg #[vo1, vo2, vo3]] w fun e w' => e = .returned (.tuple #[.slice none 0 0, .bool false]) ∧ Below w.heap.size w w' := by
  have HF := hid (fun W => rfault5_any N p s r k asked W hN)
  have hz2 : (fz5 N k asked != 0) = true := by simp [hz]
  generalize fz5 N k asked = Z at *
  obtain ⟨W0, hW0⟩ : ∃ W0, W0 = (w.alloc (.cells #[.int .i64 p, .int .i64 (N : Int), .int .i64 s, .int .i64 r] 26)).alloc (.cells #[vo1, vo2, vo3] 36) := ⟨_, rfl⟩
  have HB0 : Hid (Below w.heap.size w W0) := by rw [hW0]; exact ((Below.refl _ _).alloc (Nat.le_refl _) _).alloc (by simp) _
  have HFW := hid (HF.out W0)
  rw [hW0] at HFW HB0
  clear hz HF hW0
  go_enter Tryz.func18, Tryz.ntmps18
  go_wp2_with fail
  refine HFW.out.mono ?_
  rintro e w1 ⟨rfl, hb1⟩
  have HB1 : Hid (Below w.heap.size w w1) := HB0.out.trans (hb1.mono HB0.out.size)
  clear hb1 HB0 HFW
  go_wp2_with fail
  go_ret2
  exact ⟨rfl, HB1.out⟩

end Go.Proofs.YtfppkjpgihnibaaGreatDoor

namespace Go.Proofs.YtfppkjpgihnibaaGreatDoor
open Go.RowKit

theorem fz5_ok {K J a : Nat} (hK : K ≤ 16) (hJ : J + 1 ≤ K) (ha1 : 1 ≤ a) (ha : a ≤ 64) : fz5 (2 ^ K) ((2 ^ J : Nat) : Int) (a : Int) = 0 := by
  have h1 : 2 ^ (J + 1) ≤ 2 ^ K := Nat.pow_le_pow_right (by omega) hJ
  have h2 : 2 ^ K ≤ 2 ^ 16 := Nat.pow_le_pow_right (by omega) hK
  have h0 : 0 < 2 ^ J := Nat.pow_pos (by decide)
  rw [Nat.pow_succ] at h1
  unfold fz5
  rw [if_pos ⟨by omega, (twb_iff (by omega)).2 ⟨J, by omega, rfl⟩, by omega, by omega⟩]

set_option maxRecDepth 100000 in
set_option maxHeartbeats 8000000 in
theorem rcheck5_any (q n K J rch a n0 : Nat) (r s : Int) (ar al ao : Option Addr) (cr cl co : Nat) (roots : List (List Int)) (last : List Int) (os : List OnZ) (D : List Int) (w : World) (h5 : 5 ≤ q) (h4 : q ≤ 2147483647) (hpn : Spo.PowIs q n) (hK : K ≤ 16) (hJ : J + 1 ≤ K) (ha1 : 1 ≤ a) (ha : a ≤ 64) (hr0 : 0 ≤ r) (hr1 : r < q) (hs0 : 0 ≤ s) (hs1 : s < q)
    (hD4 : D.length = 4) (hfD : Fits D) (hch : RCh q w rch D) (hn0 : n0 ≤ rch) (hrr : FitsR roots) (hrb : ∀ k, k < roots.length → (rat roots k).length ≤ 17592186043904) (hlr : LstR n0 w ar cr roots) (hlast : last.length ≤ 17592186043904) (hfl : Fits last) (hll : Lst n0 w al cl last) (hfo : FitsF5 os) (hlo : LstF n0 w ao co os) (hm : roots.length = J - 2) :
    Calls Tryz.prog 18 #[.pointer (some ⟨rch, 0, none⟩), .agg #[.int .i64 q, .int .i64 ((2 ^ K : Nat) : Int), .int .i64 s, .int .i64 r], .int .i64 ((2 ^ J : Nat) : Int), .int .i64 (a : Int), .agg #[.slice ar roots.length cr, .slice al last.length cl, .slice ao os.length co]] w fun e w' =>
      RCh q w' rch (pld q n a (ckL q n roots last D (J - 2))) ∧ w.grownBy w' (some rch) ∧ (CkP q n K J r s roots last os D a → ∃ av cv, e = .returned (.tuple #[.slice av a cv, .bool true]) ∧ Lst w'.heap.size w' av cv (ckA q n K roots last D (J - 2) a)) ∧ (¬ CkP q n K J r s roots last os D a → e = .returned (.tuple #[.slice none 0 0, .bool false])) := by
  obtain ⟨i0, hii, hz0, hz1, hz2⟩ := info_parts Tryz.infoInt
  have h3 : 3 ≤ q := by omega
  have hrl := hch.lt
  have hn1 : n0 ≤ w.heap.size := by omega
  have HPN := hid hpn
  have HLR := hid hlr
  have HLL := hid hll
  have HLO := hid hlo
  have HRF := hid hrr
  have HRB := hid hrb
  have HFL := hid hfl
  have HFO := hid hfo
  have HFW0 := hid (fun W => rfault5_any (2 ^ K) (q : Int) s r ((2 ^ J : Nat) : Int) (a : Int) W (by have : 2 ^ K ≤ 2 ^ 16 := Nat.pow_le_pow_right (by omega) hK; omega))
  simp only [fz5_ok hK hJ ha1 ha] at HFW0
  obtain ⟨m, hmm⟩ : ∃ m, m = J - 2 := ⟨_, rfl⟩
  obtain ⟨ml, hml⟩ : ∃ ml, ml = last.length := ⟨_, rfl⟩
  obtain ⟨mo, hmo⟩ : ∃ mo, mo = os.length := ⟨_, rfl⟩
  have HM : Hid (roots.length = m) := by unfold Hid; rw [hm, hmm]
  have HMJ := hid hmm
  have HML := hid hml
  have HMO := hid hmo
  obtain ⟨NK, hNK⟩ : ∃ NK, NK = 2 ^ K := ⟨_, rfl⟩
  have HNK := hid hNK
  have hNK1 : 4 ≤ NK ∨ J = 0 := by
    rcases Nat.eq_zero_or_pos J with e | e
    · exact .inr e
    · left
      rw [hNK]
      have : 2 ^ 2 ≤ 2 ^ K := Nat.pow_le_pow_right (by omega) (by omega)
      omega
  have hNK2 : 2 ≤ NK := by
    rw [hNK]
    have : 2 ^ 1 ≤ 2 ^ K := Nat.pow_le_pow_right (by omega) (by omega)
    omega
  have hNK3 : NK ≤ 65536 := by
    rw [hNK]
    have : 2 ^ K ≤ 2 ^ 16 := Nat.pow_le_pow_right (by omega) hK
    omega
  obtain ⟨W0, hW0⟩ : ∃ W0, W0 = (w.alloc (.cells #[.int .i64 q, .int .i64 (NK : Int), .int .i64 s, .int .i64 r] 26)).alloc (.cells #[.slice ar m cr, .slice al ml cl, .slice ao mo co] 36) := ⟨_, rfl⟩
  have HC0 : Hid (CkI q NK w.heap.size rch s r (.slice ar m cr) (.slice al ml cl) (.slice ao mo co) w W0) := by
    rw [hW0]
    have g1 := heap_alloc_new w (.cells #[.int .i64 q, .int .i64 (NK : Int), .int .i64 s, .int .i64 r] 26)
    have g2 := heap_alloc_new (w.alloc (.cells #[.int .i64 q, .int .i64 (NK : Int), .int .i64 s, .int .i64 r] 26)) (.cells #[.slice ar m cr, .slice al ml cl, .slice ao mo co] 36)
    rw [show (w.alloc (.cells #[.int .i64 q, .int .i64 (NK : Int), .int .i64 s, .int .i64 r] 26)).heap.size = w.heap.size + 1 from by simp] at g2
    exact ⟨gb_below (((Below.refl _ _).alloc (Nat.le_refl _) _).alloc (by simp) _), (Below.heap_alloc _ _ _ (by simp)).trans g1, g2, hrl⟩
  have HR0 : Hid (RCh q W0 rch D) := hch.below (by rw [hW0]; exact ((Below.refl _ _).alloc (Nat.le_refl _) _).alloc (by simp) _)
  have HDL : Hid (∀ i, (ckD q n roots D i).length = 4) := ckD_len hD4
  have HDF : Hid (∀ i, Fits (ckD q n roots D i)) := ckD_fits h3 h4 hfD
  obtain ⟨CP, hCP⟩ : ∃ CP : Prop, CP = CkP q n K J r s roots last os D a := ⟨_, rfl⟩
  have HCP := hid hCP
  have HFW := hid (HFW0.out W0)
  rw [HM.out, ← hml, ← hmo, ← hNK, ← hmm, ← hCP]
  obtain ⟨DL, hDL⟩ : ∃ DL, DL = ckL q n roots last D m := ⟨_, rfl⟩
  obtain ⟨AL, hAL⟩ : ∃ AL, AL = ckA q n K roots last D m a := ⟨_, rfl⟩
  rw [← hDL, ← hAL]
  have HDE := hid hDL
  have HALE := hid hAL
  have HAL2 : Hid (AL = ls (plz q n (NK / 2) DL) a) := by unfold Hid; rw [hAL, hDL, hNK]; rfl
  have HDL4 : Hid (DL.length = 4 ∧ Fits DL) := by unfold Hid; rw [hDL]; exact ⟨digl_len _ _ _, digl_fits h3 h4 _ _⟩
  clear hDL hAL
  rw [← hNK] at HFW
  rw [← hml] at hlast
  rw [hW0] at HFW
  clear hpn hlr hll hlo hrr hrb hfl hfo hm hmm hml hmo hNK hch HFW0 hCP
  generalize hKJ : ((2 ^ J : Nat) : Int) = kJ at HFW ⊢
  have HKJ := hid hKJ
  clear hKJ
  go_enter Tryz.func18, Tryz.ntmps18
  go_wp2_with fail
  refine HFW.out.mono ?_
  rintro e w1 ⟨rfl, hb1⟩
  rw [← hW0] at hb1
  have HC1 := hid (HC0.out.step hb1)
  have HR1 := hid (HR0.out.below hb1)
  clear hb1 HFW HC0 HR0 hW0 W0
  obtain ⟨B, hB⟩ : ∃ B, B = w.heap.size := ⟨_, rfl⟩
  rw [← hB] at HC1
  have HBE : Hid (w.heap.size = B) := hB.symm
  simp only [HBE.out]
  clear hB
  go_wp2_with fail
  go_loop [13, 14] (fun rv lv => ∃ t M : Nat, rv = .int .i64 (t : Int) ∧ lv = .int .i64 (M : Int) ∧ t ≤ 16 ∧ M ≤ 65536 ∧ Hid (t ≤ m ∧ M = 2 ^ (J - t))) (fun rv _ => 17 - (intOf rv).toNat)
  case atStart =>
    refine ⟨0, 2 ^ J, rfl, by rw [← HKJ.out], by omega, ?_, by omega, rfl⟩
    have : 2 ^ J ≤ 2 ^ 16 := Nat.pow_le_pow_right (by omega) (by omega)
    omega
  case round =>
    obtain ⟨t, M, rfl, rfl, ht, hM, hI⟩ := hrel
    by_cases hlt : 4 < M
    · have hlt2 : (M : Int) > 4 := by omega
      obtain ⟨M2, hM2⟩ : ∃ M2, M2 = M / 2 := ⟨_, rfl⟩
      have q1 : (M : Int).tdiv 2 = (M2 : Int) := by rw [Int.tdiv_eq_ediv_of_nonneg (by omega)]; omega
      have q0 : (M : Int) / 2 = (M2 : Int) := by omega
      have q2 : IntKind.i64.wrap (M2 : Int) = (M2 : Int) := by rw [IntKind.wrap_i64]; omega
      have hts : IntKind.i64.wrap ((t : Int) + 1) = (t : Int) + 1 := by rw [IntKind.wrap_i64]; omega
      have hJt : 2 < J - t := by
        rcases Nat.lt_or_ge 2 (J - t) with g | g
        · exact g
        · have : 2 ^ (J - t) ≤ 2 ^ 2 := Nat.pow_le_pow_right (by omega) g
          have := hI.out.2
          omega
      have HE : Hid (t + 1 ≤ m ∧ M2 = 2 ^ (J - (t + 1))) := by
        have := HMJ.out
        refine ⟨by omega, ?_⟩
        have e : 2 ^ (J - t) = 2 ^ (J - (t + 1) + 1) := by congr 1; omega
        rw [hM2, hI.out.2, e, Nat.pow_succ]
        omega
      have hm2 : M2 ≤ 65536 := by omega
      clear hI hM2 hJt
      go_wp2_with fail
      go_round
      case rel => exact ⟨t + 1, M2, by go_num, rfl, by have := HE.out.1; have := HMJ.out; omega, hm2, HE⟩
      case measure => simp [intOf]; have := HE.out.1; have := HMJ.out; omega
    · have hlt2 : ¬ (M : Int) > 4 := by omega
      have htm : t = m := by
        have h1 := HMJ.out
        have h2 := hI.out
        rcases Nat.lt_or_ge 2 (J - t) with g | g
        · have : 2 ^ 3 ≤ 2 ^ (J - t) := Nat.pow_le_pow_right (by omega) g
          omega
        · omega
      subst htm
      have HLW : Hid (M = 2 ^ (J - (J - 2))) := by unfold Hid; rw [hI.out.2, ← HMJ.out]
      clear hI
      have o0 := thr0 HC1.out.obj
      have u1 : ((t : Int) != (t : Int)) = false := by simp
      go_wp2_with fail
      obtain ⟨G, hG⟩ : ∃ G, G = ckr q n roots D := ⟨_, rfl⟩
      have HGG := hid hG
      have HGS : Hid (∀ i, zat (digl q n (4 :: digl q n (3 :: (ckD q n roots D i ++ rat roots i)))) 0 = G i) := fun i => by rw [hG]; rfl
      clear hG o0
      go_loopw [15, 16] (fun v iv wr => ∃ k : Nat, k ≤ t ∧ iv = .int .i64 k ∧ Hid (CkI q NK B rch s r (.slice ar t cr) (.slice al ml cl) (.slice ao mo co) w wr ∧ RCh q wr rch (ckD q n roots D k) ∧ wr.ownsRow w1.heap.size 3 1 v (ls G k).length ((ls G k).map (Value.int .i64)) ∧ w1.heap.size ≤ wr.heap.size)) (fun _ iv _ => t - (intOf iv).toNat)
      case atStart => exact ⟨0, by omega, rfl, HC1.out, HR1.out, World.ownsRow_nil _ _ _ _, Nat.le_refl _⟩
      case round =>
        obtain ⟨k, hk, rfl, hI⟩ := hrel
        by_cases hkt : k < t
        · have hkt2 : (k : Int) < (t : Int) := by omega
          have hks : IntKind.i64.wrap ((k : Int) + 1) = (k : Int) + 1 := by rw [IntKind.wrap_i64]; omega
          obtain ⟨hCI, hRC, hOW, hSZ⟩ := hI.out
          have hbn := hCI.bel hn0 hn1
          have o0 := thr0 hCI.obj
          obtain ⟨b0, p0, ak, ck, hae, hb0, hc0, hlk⟩ := HLR.out.row k (by rw [HM.out]; exact hkt)
          subst hae
          have hc2 := (hbn.cell (p := ⟨b0, p0 + k, none⟩) hb0).trans hc0
          have hkr : k < roots.length := by rw [HM.out]; exact hkt
          have HST := hid (rstep_any q n rch ck 3 ak (rat roots k) (ckD q n roots D k) wr h5 h4 HPN.out (by omega) (by rw [HDL.out k]; have := HRB.out k hkr; omega) (HDF.out k) (HRF.out k hkr).1 hRC ((hlk.below hbn).mono (by have := hbn.size; omega)))
          have HCI := hid hCI
          have HRC := hid hRC
          have HOW := hid hOW
          generalize (rat roots k).length = rk at *
          clear hI hCI hRC hOW hbn hc0 hlk
          go_wp2_with fail
          refine HST.out.mono ?_
          rintro e w2 ⟨rfl, hr2, hg2⟩
          have HC2 := hid (HCI.out.chain hg2)
          have HO2 := hid (own_chain HOW.out HRC.out hg2)
          have HDW := hid (rdraw_new q n rch _ w2 h5 h4 HPN.out (by rw [digl_len]; omega) (digl_fits h3 h4 _ _) hr2)
          rw [HGS.out k] at HDW
          have HR2 := hid hr2
          have hs2 : w1.heap.size ≤ w2.heap.size := Nat.le_trans hSZ hg2.size
          have HSC := hid (ls_succ G k)
          have HLS := hid (ls_len G k)
          generalize G k = z at *
          clear hr2 hg2 HST HCI HRC HOW o0 hc2
          go_wp2_with fail
          refine HDW.out.mono ?_
          rintro e w3 ⟨rfl, hr3, hg3⟩
          have hC3 := HC2.out.chain hg3
          have hown := own_chain HO2.out HR2.out hg3
          have holt := HO2.out.lt
          have hrn := hr3.below ((Below.refl _ _).alloc (Nat.le_refl _) (.cells #[.int .i64 z] 3))
          have hs3 := hg3.size
          have hone : ∀ g, g ≠ rch → True := fun _ _ => trivial
          have hro := hr3.rch
          generalize ls G k = Z at *
          have hZ : Z.length ≤ 17592186043904 := by rw [HLS.out]; omega
          clear HDW hr3 hg3 HC2 HO2 HR2 hone
          go_wp2_with (at_builtin; refine wpList_append_own _ rfl _ _ 22 rfl w1.heap.size 3 i0 (.int .i64 0) 1 8 Tryz.underlying22 hii hz0 hz1 hz2 rfl (by decide) _ _ _ rfl (hown.alloc _) ⟨w3.heap.size, 0, none⟩ 1 1 [.int .i64 z] rfl rfl ?c1 ?c2 ?c3 ?c4 ?c5 ?_)
          case c1 =>
            intro j u hj
            match j, hj with
            | 0, hj => simp at hj; subst hj; simp [Addr.add]
          case c2 => intro u hu; simp at hu; subst hu; rfl
          case c3 => unfold maxLen; omega
          case c4 => omega
          case c5 => simp; omega
          intro v' w5 hown2 hgrow _
          have hown3 := owns_succ hown2
          have hne : ∀ b, b < w1.heap.size → some b ≠ Value.ownBlock _ := fun b hb e => by
            have := (hown.lt b e.symm).1
            omega
          have HE : Hid (CkI q NK B rch s r (.slice (some ⟨b0, p0, none⟩) t cr) (.slice al ml cl) (.slice ao mo co) w w5 ∧ RCh q w5 rch (ckD q n roots D (k + 1)) ∧ w5.ownsRow w1.heap.size 3 1 v' (ls G (k + 1)).length ((ls G (k + 1)).map (Value.int .i64)) ∧ w1.heap.size ≤ w5.heap.size) := by
            have hsw := hgrow.size
            have hza : (w3.alloc (.cells #[.int .i64 z] 3)).heap.size = w3.heap.size + 1 := by simp
            have hcc := HC1.out
            have hB1 : B + 1 < w1.heap.size := (Array.getElem?_eq_some_iff.1 hcc.obj).1
            have hrB := hcc.hr
            have hbk : ∀ b, b < w1.heap.size → w5.heap[b]? = w3.heap[b]? := fun b hb => (hgrow.block b (by omega) (hne b hb)).trans (Below.heap_alloc w3 _ b (by omega))
            refine ⟨⟨?_, (hbk B (by omega)).trans hC3.dom, (hbk (B + 1) hB1).trans hC3.obj, hrB⟩, hrn.own hgrow (hne rch (by omega)) (fun g hg => (holt g hg).2), by rw [HSC.out]; exact hown3, by omega⟩
            have hg0 := hC3.gb
            refine ⟨hgrow.os.trans hg0.os, hgrow.tape.trans hg0.tape, hgrow.output.trans hg0.output, by have := hg0.size; omega, fun b hb hbr => ?_⟩
            exact (hbk b (by have := HBE.out; omega)).trans (hg0.block b hb hbr)
          clear hown2 hown3 hgrow hown holt hC3 hne hrn hro
          go_wp2_with fail
          go_roundw
          case rel => exact ⟨k + 1, by omega, by go_num, HE⟩
          case measure => simp [intOf]; omega
        · obtain rfl : k = t := by omega
          have hkt2 : ¬ (k : Int) < (k : Int) := by omega
          obtain ⟨hCI, hRC, hOW, hSZ⟩ := hI.out
          have hbn := hCI.bel hn0 hn1
          have o1 := thr1 hCI.obj
          have HST : Hid (Calls Tryz.prog 45 #[.pointer (some ⟨rch, 0, none⟩), .int .i64 3, .slice al ml cl] wr fun e w' => e = .returned (.tuple #[]) ∧ RCh q w' rch (ckL q n roots last D k) ∧ wr.grownBy w' (some rch)) := by
            have := rstep_any q n rch cl 3 al last (ckD q n roots D k) wr h5 h4 HPN.out (by omega) (by rw [HDL.out k, ← HML.out]; omega) (HDF.out k) HFL.out hRC ((HLL.out.below hbn).mono (by have := hbn.size; omega))
            rw [← HML.out] at this
            exact this
          have HCI := hid hCI
          have HRC := hid hRC
          have HOW := hid hOW
          rw [← HDE.out] at HST
          clear hI hCI hRC hOW hbn
          go_wp2_with fail
          refine HST.out.mono ?_
          rintro e w2 ⟨rfl, hr2, hg2⟩
          have HC2 := hid (HCI.out.chain hg2)
          have HO2 := hid (own_chain HOW.out HRC.out hg2)
          have HR2 := hid hr2
          have hs2 : w1.heap.size ≤ w2.heap.size := Nat.le_trans hSZ hg2.size
          have HPL := hid (rplaces_any q n rch NK a s r DL w2 h5 h4 HPN.out (by rw [HDL4.out.1]; omega) HDL4.out.2 hr2 hNK2 hNK3 (by omega))
          rw [← HAL2.out] at HPL
          have d0 := four0 HC2.out.dom
          have d1 := four1 HC2.out.dom
          have d2 := four2 HC2.out.dom
          have d3 := four3 HC2.out.dom
          clear hr2 hg2 HST HCI HRC HOW o1
          go_wp2_with fail
          refine HPL.out.mono ?_
          rintro e w6 ⟨v6, rfl, hr6, ho6, hg6⟩
          have HC6 := hid (HC2.out.chain hg6)
          have HO6 := own_chain HO2.out HR2.out hg6
          have HR6 := hid hr6
          have hALl : AL.length = a := by rw [HAL2.out, ls_len]
          obtain ⟨av, cv, hv6, hlA⟩ := lst_of_owns ho6
          subst hv6
          obtain ⟨ad, cd, hvd, hlD⟩ := lst_of_owns HO6
          subst hvd
          rw [hALl, ls_len]
          have HLA := hid hlA
          have HLD := hid hlD
          have HALL := hid hALl
          have hb6 := HC6.out.bel hn0 hn1
          have HB6 := hid hb6
          have HAP : Hid (∀ j, j < a → ∃ pl : Nat, zat AL j = (pl : Int) ∧ pl ≤ 65536) := fun j hj => by
            rw [HAL2.out, ls_at _ _ _ hj]
            obtain ⟨e1, e2⟩ := plz_bounds (q := q) (n := n) (N := NK / 2) (by omega) DL j
            exact ⟨(plz q n (NK / 2) DL j).toNat, by omega, by omega⟩
          have HDG : Hid (Calls Tryz.prog 62 #[.int .i64 q, .slice al ml cl] w6 fun e w' => e = .returned (.int .i64 ((tpn q (zat last) ml : Int) - 1)) ∧ w' = w6) := rdeg_any q ml cl (· < w6.heap.size) al (zat last) w6 h3 h4 (by omega) (by rw [HML.out]; exact HFL.out) (by
            have := ((HLL.out.below hb6).mono (by have := hb6.size; omega) : Lst w6.heap.size w6 al cl last).row.f
            rw [← HML.out] at this
            exact this)
          have HFG : Hid (∀ W, Below w6.heap.size w6 W → RCh q W rch (pld q n a DL) ∧ w.grownBy W (some rch)) := fun W hb => ⟨HR6.out.below hb, (HC6.out.step hb).gb⟩
          generalize htp : tpn q (zat last) ml = tp at *
          have HTP : Hid (tp = tpn q (zat last) last.length) := by unfold Hid; rw [← HML.out, htp]
          have d0' := four0 HC6.out.dom
          have d1' := four1 HC6.out.dom
          have o1' := thr1 HC6.out.obj
          have o2' := thr2 HC6.out.obj
          clear htp hr6 ho6 hg6 HO6 HO2 HC2 HPL HR2 d0 d1 d2 d3 hlA hlD hALl hb6
          by_cases hmo : ¬ mo = k
          · have v1 : ((mo : Int) != (k : Int)) = true := by simp; omega
            have HNO : Hid (¬ CP) := by
              unfold Hid
              rw [HCP.out]
              intro h
              exact hmo (by rw [HMO.out, h.1, HMJ.out])
            clear hmo
            go_wp2_with fail
            refine HDG.out.mono ?_
            rintro e w7 ⟨rfl, rfl⟩
            go_wp2_with fail
            go_ret2
            exact ⟨(HFG.out _ (Below.refl _ _)).1, (HFG.out _ (Below.refl _ _)).2, fun h => absurd h HNO.out, fun _ => rfl⟩
          replace hmo : mo = k := by omega
          have v1 : ((mo : Int) != (k : Int)) = false := by simp [hmo]
          by_cases hdg : ¬ tp ≤ M
          · have v2 : (tp : Int) - 1 ≥ (M : Int) := by omega
            have HNO : Hid (¬ CP) := by
              unfold Hid
              rw [HCP.out]
              intro h
              exact hdg (by rw [HTP.out, HLW.out]; exact h.2.1)
            clear hdg hmo
            go_wp2_with fail
            refine HDG.out.mono ?_
            rintro e w7 ⟨rfl, rfl⟩
            go_wp2_with fail
            go_ret2
            exact ⟨(HFG.out _ (Below.refl _ _)).1, (HFG.out _ (Below.refl _ _)).2, fun h => absurd h HNO.out, fun _ => rfl⟩
          have v2 : ¬ (tp : Int) - 1 ≥ (M : Int) := by omega
          have HDG1 : Hid (tp ≤ M) := by unfold Hid; omega
          have HMK := hid hmo
          clear hdg hmo
          go_wp2_with fail
          refine HDG.out.mono ?_
          rintro e w7 ⟨rfl, rfl⟩
          clear HDG
          go_wp2_with fail
          go_loopw [20, 21] (fun nv iv wq => ∃ j Nn : Nat, j ≤ k ∧ iv = .int .i64 j ∧ nv = .int .i64 (Nn : Int) ∧ Nn ≤ 65536 ∧ Hid (Nn = 2 ^ (K - j) ∧ Below w7.heap.size w7 wq ∧ ∀ i, i < j → shz5 q n (rat roots i) ((2 ^ (K - i - 1) : Nat) : Int) (onat os i).ps (onat os i).rows (onat os i).nodes (mdz AL (2 ^ (K - i - 1))) 2 = true)) (fun _ iv _ => k - (intOf iv).toNat)
          case atStart => exact ⟨0, NK, by omega, rfl, rfl, hNK3, HNK.out, Below.refl _ _, fun i hi => by omega⟩
          case round =>
            obtain ⟨j, Nn, hj, rfl, rfl, hNn, hL⟩ := hrel
            obtain ⟨wq, hwq⟩ : ∃ wq, wq = wr := ⟨_, rfl⟩
            by_cases hjt : j < k
            · have hjt2 : (j : Int) < (k : Int) := by omega
              have hjw : IntKind.i64.wrap ((j : Int) + 1) = (j : Int) + 1 := by rw [IntKind.wrap_i64]; omega
              obtain ⟨Hn, hHn⟩ : ∃ Hn, Hn = 2 ^ (K - j - 1) := ⟨_, rfl⟩
              have hNH : Nn = 2 * Hn := by
                have hKj : j + 1 ≤ K := by have := HMJ.out; omega
                have e : 2 ^ (K - j) = 2 ^ (K - j - 1 + 1) := by congr 1; omega
                rw [hL.out.1, e, Nat.pow_succ, ← hHn]; omega
              have hH1 : 1 ≤ Hn := by rw [hHn]; exact Nat.pow_pos (by decide)
              have q1 : (Nn : Int).tdiv 2 = (Hn : Int) := by rw [Int.tdiv_eq_ediv_of_nonneg (by omega)]; omega
              have q0 : (Nn : Int) / 2 = (Hn : Int) := by omega
              have q2 : IntKind.i64.wrap (Hn : Int) = (Hn : Int) := by rw [IntKind.wrap_i64]; omega
              have hbq := hL.out.2.1
              have HCQ := hid (HC6.out.step hbq)
              have HMD : Hid (Calls Tryz.prog 50 #[.slice av a cv, .int .i64 (Hn : Int)] wr fun e w' => ∃ a' c' L', e = .returned (.slice a' L' c') ∧ L' = (mdz AL Hn).length ∧ Lst w'.heap.size w' a' c' (mdz AL Hn) ∧ Below wr.heap.size wr w') := by
                have := rmodulo_any cv Hn av AL wr (by omega) (by omega) (by rw [HALL.out]; omega) (fun i hi => by
                  rw [HALL.out] at hi
                  obtain ⟨pl, e1, e2⟩ := HAP.out i hi
                  rw [e1]; omega) ((HLA.out.below hbq).mono hbq.size).row
                rw [HALL.out] at this
                refine this.mono ?_
                rintro e w' ⟨v, rfl, ho, hb⟩
                obtain ⟨a', c', rfl, hl⟩ := lst_of_owns ho
                exact ⟨a', c', _, rfl, rfl, hl, hb⟩
              have HHE := hid hHn
              have HBQ := hid hbq
              have HSH := hid hL.out.2.2
              clear hL hNH hHn hbq hwq
              go_wp2_with fail
              refine HMD.out.mono ?_
              rintro e w8 ⟨a8, c8, L8, rfl, hL8, hl8, hb8⟩
              have HC8 := hid (HCQ.out.step hb8)
              have HB8 : Hid (Below w7.heap.size w7 w8) := HBQ.out.trans (hb8.mono HBQ.out.size)
              have hbn := HC8.out.bel hn0 hn1
              obtain ⟨b0, p0, ak, ck, hae, hb0, hc0, hlk⟩ := HLR.out.row j (by rw [HM.out]; exact hjt)
              subst hae
              obtain ⟨bO, oO, ap, cp, ao2, co2, an', cn, hae, hbO, g1, g2, g3, g4, g5, g6⟩ := HLO.out.row j (by rw [← HMO.out, HMK.out]; exact hjt)
              subst hae
              obtain ⟨SB, hSB⟩ : ∃ SB, SB = shz5 q n (rat roots j) (Hn : Int) (onat os j).ps (onat os j).rows (onat os j).nodes (mdz AL Hn) 2 := ⟨_, rfl⟩
              have hfj := HFO.out j (by rw [← HMO.out, HMK.out]; exact hjt)
              have hrj := HRF.out j (by rw [HM.out]; exact hjt)
              have hmz : (mdz AL Hn).length ≤ 281474976710656 := by
                have h1 : (mdz AL Hn).length ≤ (AL.map (· % (Hn : Int))).length := asc_le (onc_is _).1 (fun x hx => ((onc_is _).2 x).1 hx)
                rw [List.length_map, HALL.out] at h1
                omega
              have HSW : Hid (∀ W, Below w8.heap.size w8 W → Calls Tryz.prog 63 #[.int .i64 q, .slice ak (rat roots j).length ck, .int .i64 (Hn : Int), .agg #[.slice ap (onat os j).ps.length cp, .slice ao2 (onat os j).rows.length co2, .slice an' (onat os j).nodes.length cn], .slice a8 L8 c8, .int .i64 2] W fun e w' => e = .returned (.bool SB) ∧ Below w8.heap.size w8 w') := fun W hb => by
                have hbW := (HC8.out.step hb).bel hn0 hn1
                have hsW : n0 ≤ W.heap.size := by have := hbW.size; omega
                rw [hL8, hSB]
                refine (rshows_any q n h5 h4 HPN.out ck cp co2 cn c8 ak ap ao2 an' a8 (rat roots j) (Hn : Int) 2 (onat os j).ps (onat os j).rows (onat os j).nodes (mdz AL Hn) W (by have := hrj.2; omega) hfj.1 hfj.2.1 hfj.2.2.1 hmz hrj.1 hfj.2.2.2.1 hfj.2.2.2.2 ((hlk.below hbW).mono hsW).row ((g4.below hbW).mono hsW).row ((g5.below hbW).mono hsW) ((g6.below hbW).mono hsW) ((hl8.below hb).mono hb.size).row).mono ?_
                rintro e w' ⟨rfl, h2⟩
                exact ⟨rfl, hb.trans (h2.mono hb.size)⟩
              have HKe : Hid (∀ W, Below w8.heap.size w8 W → W.cell? ⟨B, 0, none⟩ = some (.int .i64 q) ∧ W.cell? ⟨B + 1, 0, none⟩ = some (.slice (some ⟨b0, p0, none⟩) k cr) ∧ W.cell? ⟨b0, p0 + j, none⟩ = some (.slice ak (rat roots j).length ck) ∧ W.cell? ⟨B + 1, 2, none⟩ = some (.slice (some ⟨bO, oO, none⟩) mo co) ∧ W.cell? ⟨bO, oO + j * 3, none⟩ = some (.slice ap (onat os j).ps.length cp) ∧ W.cell? ⟨bO, oO + j * 3 + 1, none⟩ = some (.slice ao2 (onat os j).rows.length co2) ∧ W.cell? ⟨bO, oO + j * 3 + 2, none⟩ = some (.slice an' (onat os j).nodes.length cn)) := fun W hb => by
                have hs := HC8.out.step hb
                have hbW := hs.bel hn0 hn1
                exact ⟨four0 hs.dom, thr0 hs.obj, (hbW.cell (p := ⟨b0, p0 + j, none⟩) hb0).trans hc0, thr2 hs.obj, (hbW.cell (p := ⟨bO, oO + j * 3, none⟩) hbO).trans g1, (hbW.cell (p := ⟨bO, oO + j * 3 + 1, none⟩) hbO).trans g2, (hbW.cell (p := ⟨bO, oO + j * 3 + 2, none⟩) hbO).trans g3⟩
              have HSB := hid hSB
              have hjo : (j : Int) < (mo : Int) := by have := HMK.out; omega
              have hdd : Below w8.heap.size w8 w8.drew := (Below.refl _ _).drew
              generalize (onat os j).ps.length = y1 at *
              generalize (onat os j).rows.length = y2 at *
              generalize (onat os j).nodes.length = y3 at *
              generalize (rat roots j).length = y4 at *
              clear hbn hlk hc0 g1 g2 g3 g4 g5 g6 hfj hrj hSB hL8 hl8 hb8 HMD
              cases SB with
              | true =>
                go_wp2_with fail
                go_region_held3 (fun W => W.cell? ⟨B, 0, none⟩ = some (.int .i64 q) ∧ W.cell? ⟨B + 1, 0, none⟩ = some (.slice (some ⟨b0, p0, none⟩) k cr) ∧ W.cell? ⟨b0, p0 + j, none⟩ = some (.slice ak y4 ck) ∧ W.cell? ⟨B + 1, 2, none⟩ = some (.slice (some ⟨bO, oO, none⟩) mo co) ∧ W.cell? ⟨bO, oO + j * 3, none⟩ = some (.slice ap y1 cp) ∧ W.cell? ⟨bO, oO + j * 3 + 1, none⟩ = some (.slice ao2 y2 co2) ∧ W.cell? ⟨bO, oO + j * 3 + 2, none⟩ = some (.slice an' y3 cn)) (exact HKe.out _ (by assumption))
                  (first
                    | (go_at_call 63; refine (HSW.out _ (by assumption)).mono ?_; rintro e w9 ⟨rfl, hb9⟩))
                have HE : Hid (Hn = 2 ^ (K - (j + 1)) ∧ Below w7.heap.size w7 w9 ∧ ∀ i, i < j + 1 → shz5 q n (rat roots i) ((2 ^ (K - i - 1) : Nat) : Int) (onat os i).ps (onat os i).rows (onat os i).nodes (mdz AL (2 ^ (K - i - 1))) 2 = true) := by
                  refine ⟨by rw [HHE.out]; congr 1, HB8.out.trans (hb9.mono HB8.out.size), fun i hi => ?_⟩
                  by_cases e : i = j
                  · rw [e, ← HHE.out]
                    exact HSB.out.symm
                  · exact HSH.out i (by omega)
                clear hb9 HSW HKe hdd
                go_wp2_with fail
                go_roundw
                case rel => exact ⟨j + 1, Hn, by omega, by go_num, rfl, by omega, HE⟩
                case measure => simp [intOf]; omega
              | false =>
                have HNO : Hid (¬ CP) := by
                  unfold Hid
                  rw [HCP.out]
                  intro h
                  have := h.2.2.1 j (by rw [← HMJ.out]; exact hjt)
                  rw [← HMJ.out, ← HALE.out, ← HHE.out, ← HSB.out] at this
                  cases this
                go_wp2_with fail
                go_region_held3 (fun W => W.cell? ⟨B, 0, none⟩ = some (.int .i64 q) ∧ W.cell? ⟨B + 1, 0, none⟩ = some (.slice (some ⟨b0, p0, none⟩) k cr) ∧ W.cell? ⟨b0, p0 + j, none⟩ = some (.slice ak y4 ck) ∧ W.cell? ⟨B + 1, 2, none⟩ = some (.slice (some ⟨bO, oO, none⟩) mo co) ∧ W.cell? ⟨bO, oO + j * 3, none⟩ = some (.slice ap y1 cp) ∧ W.cell? ⟨bO, oO + j * 3 + 1, none⟩ = some (.slice ao2 y2 co2) ∧ W.cell? ⟨bO, oO + j * 3 + 2, none⟩ = some (.slice an' y3 cn)) (exact HKe.out _ (by assumption))
                  (first
                    | (go_at_call 63; refine (HSW.out _ (by assumption)).mono ?_; rintro e w9 ⟨rfl, hb9⟩))
                have HB9 : Hid (Below w7.heap.size w7 w9) := HB8.out.trans (hb9.mono HB8.out.size)
                clear hb9 HSW HKe hdd
                go_wp2_with fail
                go_ret2
                exact ⟨(HFG.out _ HB9.out).1, (HFG.out _ HB9.out).2, fun h => absurd h HNO.out, fun _ => rfl⟩
            · obtain rfl : j = k := by omega
              have hjt2 : ¬ (j : Int) < (j : Int) := by omega
              have HSH := hid hL.out.2.2
              have HBQ := hid hL.out.2.1
              have HGF : Hid (Fits (ls G j)) := fun i hi => by
                rw [ls_len] at hi
                rw [ls_at _ _ _ hi, ← HGS.out i]
                exact (digl_fits h3 h4 _ _).all 0
              clear hL hwq d0' d1' o1' o2'
              go_wp2_with fail
              go_loopw [24] (fun iv wq => ∃ y : Nat, y ≤ a ∧ iv = .int .i64 y ∧ Hid (Below w7.heap.size w7 wq ∧ ∀ x, x < y → pthz q K r s os last (ls G j) (zat AL x).toNat = true)) (fun iv _ => a - (intOf iv).toNat)
              case atStart => exact ⟨0, by omega, rfl, HBQ.out, fun x hx => by omega⟩
              case round =>
                obtain ⟨y, hy, rfl, hL⟩ := hrel
                by_cases hyt : y < a
                · have hyt2 : (y : Int) < (a : Int) := by omega
                  have hyw : IntKind.i64.wrap ((y : Int) + 1) = (y : Int) + 1 := by rw [IntKind.wrap_i64]; omega
                  obtain ⟨pl, e1, e2⟩ := HAP.out y hyt
                  have hbq := hL.out.1
                  have HCQ := hid (HC6.out.step hbq)
                  obtain ⟨bA, oA, hae, hbA, hcA⟩ := HLA.out.row y (by rw [HALL.out]; exact hyt)
                  subst hae
                  rw [e1] at hcA
                  have hcA2 := (hbq.cell (p := ⟨bA, oA + y, none⟩) hbA).trans hcA
                  have HMEM : Hid ((pl : Int) ∈ AL) := by
                    unfold Hid
                    rw [← e1]
                    exact zat_mem (by rw [HALL.out]; exact hyt)
                  obtain ⟨PB, hPB⟩ : ∃ PB, PB = pthz q K r s os last (ls G j) pl := ⟨_, rfl⟩
                  have HPTH : Hid (∀ W, Below wr.heap.size wr W → Calls Tryz.prog 64 #[.agg #[.int .i64 q, .int .i64 (NK : Int), .int .i64 s, .int .i64 r], .agg #[.slice ar j cr, .slice al ml cl, .slice ao mo co], .slice ad j cd, .int .i64 (pl : Int)] W fun e w' => e = .returned (.bool PB) ∧ Below wr.heap.size wr w') := fun W hb => by
                    have hbW := (HCQ.out.step hb).bel hn0 hn1
                    have hsW : n0 ≤ W.heap.size := by have := hbW.size; omega
                    have hb7 : Below w7.heap.size w7 W := hbq.trans (hb.mono hbq.size)
                    have := rpath_any q K r s (.slice ar j cr) al ao ad cl co cd last os (ls G j) pl W h3 h4 hK hr0 hr1 hs0 hs1 (by rw [ls_len]; have := HMJ.out; omega) (by rw [ls_len, ← HMO.out, HMK.out]; exact Nat.le_refl _) (by omega) (by rw [← HML.out]; omega) HFL.out HGF.out ((HLL.out.below hbW).mono hsW).row ((HLO.out.below hbW).mono hsW) ((HLD.out.below hb7).mono hb7.size).row (fun i hi => by
                      rw [ls_len] at hi
                      have hfi := HFO.out i (by rw [← HMO.out, HMK.out]; exact hi)
                      exact shz5_ok (Nat.pow_pos (by decide)) hfi.1 hfi.2.2.2.1 (HSH.out i hi) HMEM.out)
                    rw [ls_len, ← HNK.out, ← HML.out, ← HMO.out, ← hPB] at this
                    refine this.mono ?_
                    rintro e w' ⟨rfl, h2⟩
                    exact ⟨rfl, hb.trans (h2.mono hb.size)⟩
                  have HKe : Hid (∀ W, Below wr.heap.size wr W → W.cell? ⟨B, 0, none⟩ = some (.int .i64 q) ∧ W.cell? ⟨B, 1, none⟩ = some (.int .i64 (NK : Int)) ∧ W.cell? ⟨B, 2, none⟩ = some (.int .i64 s) ∧ W.cell? ⟨B, 3, none⟩ = some (.int .i64 r) ∧ W.cell? ⟨B + 1, 0, none⟩ = some (.slice ar j cr) ∧ W.cell? ⟨B + 1, 1, none⟩ = some (.slice al ml cl) ∧ W.cell? ⟨B + 1, 2, none⟩ = some (.slice ao mo co) ∧ W.cell? ⟨bA, oA + y, none⟩ = some (.int .i64 (pl : Int))) := fun W hb => by
                    have hs := HCQ.out.step hb
                    exact ⟨four0 hs.dom, four1 hs.dom, four2 hs.dom, four3 hs.dom, thr0 hs.obj, thr1 hs.obj, thr2 hs.obj, (hb.cell (p := ⟨bA, oA + y, none⟩) (World.block_lt_of_cell? _ _ hcA2)).trans hcA2⟩
                  have HPB := hid hPB
                  have HLP := hid hL.out.2
                  have HBQ2 := hid hbq
                  have HE1 := hid e1
                  have hdd : Below wr.heap.size wr wr.drew := (Below.refl _ _).drew
                  clear hL hbq hcA hcA2 hPB e1
                  cases PB with
                  | true =>
                    go_wp2_with fail
                    go_region_held3 (fun W => W.cell? ⟨B, 0, none⟩ = some (.int .i64 q) ∧ W.cell? ⟨B, 1, none⟩ = some (.int .i64 (NK : Int)) ∧ W.cell? ⟨B, 2, none⟩ = some (.int .i64 s) ∧ W.cell? ⟨B, 3, none⟩ = some (.int .i64 r) ∧ W.cell? ⟨B + 1, 0, none⟩ = some (.slice ar j cr) ∧ W.cell? ⟨B + 1, 1, none⟩ = some (.slice al ml cl) ∧ W.cell? ⟨B + 1, 2, none⟩ = some (.slice ao mo co) ∧ W.cell? ⟨bA, oA + y, none⟩ = some (.int .i64 (pl : Int))) (exact HKe.out _ (by assumption))
                      (first
                        | (go_at_call 64; refine (HPTH.out _ (by assumption)).mono ?_; rintro e w9 ⟨rfl, hb9⟩))
                    have HE : Hid (Below w7.heap.size w7 w9 ∧ ∀ x, x < y + 1 → pthz q K r s os last (ls G j) (zat AL x).toNat = true) := by
                      refine ⟨HBQ2.out.trans (hb9.mono HBQ2.out.size), fun x hx => ?_⟩
                      by_cases e : x = y
                      · rw [e, HE1.out, Int.toNat_natCast]
                        exact HPB.out.symm
                      · exact HLP.out x (by omega)
                    clear hb9 HPTH HKe hdd
                    go_wp2_with fail
                    go_roundw
                    case rel => exact ⟨y + 1, by omega, by go_num, HE⟩
                    case measure => simp [intOf]; omega
                  | false =>
                    have HNO : Hid (¬ CP) := by
                      unfold Hid
                      rw [HCP.out]
                      intro h
                      have := h.2.2.2 y hyt
                      rw [← HMJ.out, ← HALE.out, ← HGG.out, HE1.out, Int.toNat_natCast, ← HPB.out] at this
                      cases this
                    go_wp2_with fail
                    go_region_held3 (fun W => W.cell? ⟨B, 0, none⟩ = some (.int .i64 q) ∧ W.cell? ⟨B, 1, none⟩ = some (.int .i64 (NK : Int)) ∧ W.cell? ⟨B, 2, none⟩ = some (.int .i64 s) ∧ W.cell? ⟨B, 3, none⟩ = some (.int .i64 r) ∧ W.cell? ⟨B + 1, 0, none⟩ = some (.slice ar j cr) ∧ W.cell? ⟨B + 1, 1, none⟩ = some (.slice al ml cl) ∧ W.cell? ⟨B + 1, 2, none⟩ = some (.slice ao mo co) ∧ W.cell? ⟨bA, oA + y, none⟩ = some (.int .i64 (pl : Int))) (exact HKe.out _ (by assumption))
                      (first
                        | (go_at_call 64; refine (HPTH.out _ (by assumption)).mono ?_; rintro e w9 ⟨rfl, hb9⟩))
                    have HB9 : Hid (Below w7.heap.size w7 w9) := HBQ2.out.trans (hb9.mono HBQ2.out.size)
                    clear hb9 HPTH HKe hdd
                    go_wp2_with fail
                    go_ret2
                    exact ⟨(HFG.out _ HB9.out).1, (HFG.out _ HB9.out).2, fun h => absurd h HNO.out, fun _ => rfl⟩
                · obtain rfl : y = a := by omega
                  have hyt2 : ¬ (y : Int) < (y : Int) := by omega
                  have HYES : Hid (CP) := by
                    unfold Hid
                    rw [HCP.out]
                    refine ⟨by rw [← HMO.out, HMK.out, ← HMJ.out], by rw [← HTP.out, ← HLW.out]; exact HDG1.out, ?_, ?_⟩
                    · rw [← HMJ.out, ← HALE.out]
                      exact HSH.out
                    · rw [← HMJ.out, ← HALE.out, ← HGG.out]
                      exact hL.out.2
                  have HB9 := hid hL.out.1
                  clear hL
                  go_wp2_with fail
                  go_ret2
                  exact ⟨(HFG.out _ HB9.out).1, (HFG.out _ HB9.out).2, fun _ => ⟨_, _, rfl, (HLA.out.below HB9.out).mono HB9.out.size⟩, fun h => absurd HYES.out h⟩

end Go.Proofs.YtfppkjpgihnibaaGreatDoor

namespace Go.Proofs.YtfppkjpgihnibaaGreatDoor
open Go.RowKit

set_option maxRecDepth 100000 in
set_option maxHeartbeats 2000000 in
theorem rcheck5_roots (q K J rch a rl : Nat) (r s : Int) (ar : Option Addr) (cr : Nat) (vl vo : Value) (w : World) (hK : K ≤ 16) (hJ : J + 1 ≤ K) (ha1 : 1 ≤ a) (ha : a ≤ 64) (hm : rl ≠ J - 2) :
    Calls Tryz.prog 18 #[.pointer (some ⟨rch, 0, none⟩), .agg #[.int .i64 q, .int .i64 ((2 ^ K : Nat) : Int), .int .i64 s, .int .i64 r], .int .i64 ((2 ^ J : Nat) : Int), .int .i64 (a : Int), .agg #[.slice ar rl cr, vl, vo]] w fun e w' => e = .returned (.tuple #[.slice none 0 0, .bool false]) ∧ Below w.heap.size w w' := by
  have HFW0 := hid (fun W => rfault5_any (2 ^ K) (q : Int) s r ((2 ^ J : Nat) : Int) (a : Int) W (by have : 2 ^ K ≤ 2 ^ 16 := Nat.pow_le_pow_right (by omega) hK; omega))
  simp only [fz5_ok hK hJ ha1 ha] at HFW0
  obtain ⟨m, hmm⟩ : ∃ m, m = J - 2 := ⟨_, rfl⟩
  have HMJ := hid hmm
  rw [← hmm] at hm
  obtain ⟨W0, hW0⟩ : ∃ W0, W0 = (w.alloc (.cells #[.int .i64 q, .int .i64 ((2 ^ K : Nat) : Int), .int .i64 s, .int .i64 r] 26)).alloc (.cells #[.slice ar rl cr, vl, vo] 36) := ⟨_, rfl⟩
  have HB0 : Hid (Below w.heap.size w W0) := by rw [hW0]; exact ((Below.refl _ _).alloc (Nat.le_refl _) _).alloc (by simp) _
  have HO0 : Hid (W0.heap[w.heap.size + 1]? = some (.cells #[.slice ar rl cr, vl, vo] 36 (0, 0))) := by
    rw [hW0]
    have g2 := heap_alloc_new (w.alloc (.cells #[.int .i64 q, .int .i64 ((2 ^ K : Nat) : Int), .int .i64 s, .int .i64 r] 26)) (.cells #[.slice ar rl cr, vl, vo] 36)
    rw [show (w.alloc (.cells #[.int .i64 q, .int .i64 ((2 ^ K : Nat) : Int), .int .i64 s, .int .i64 r] 26)).heap.size = w.heap.size + 1 from by simp] at g2
    exact g2
  have HFW := hid (HFW0.out W0)
  rw [hW0] at HFW
  clear hmm HFW0
  generalize hNK : ((2 ^ K : Nat) : Int) = NK at *
  generalize hKJ : ((2 ^ J : Nat) : Int) = kJ at HFW ⊢
  have HKJ := hid hKJ
  clear hKJ hNK
  go_enter Tryz.func18, Tryz.ntmps18
  go_wp2_with fail
  refine HFW.out.mono ?_
  rintro e w1 ⟨rfl, hb1⟩
  rw [← hW0] at hb1
  have HB1 : Hid (Below w.heap.size w w1) := HB0.out.trans (hb1.mono HB0.out.size)
  have HO1 := hid ((hb1.block _ (Array.getElem?_eq_some_iff.1 HO0.out).1).trans HO0.out)
  clear hb1 HFW HB0 HO0 hW0 W0
  go_wp2_with fail
  go_loop [13, 14] (fun rv lv => ∃ t M : Nat, rv = .int .i64 (t : Int) ∧ lv = .int .i64 (M : Int) ∧ t ≤ 16 ∧ M ≤ 65536 ∧ Hid (t ≤ m ∧ M = 2 ^ (J - t))) (fun rv _ => 17 - (intOf rv).toNat)
  case atStart =>
    refine ⟨0, 2 ^ J, rfl, by rw [← HKJ.out], by omega, ?_, by omega, rfl⟩
    have : 2 ^ J ≤ 2 ^ 16 := Nat.pow_le_pow_right (by omega) (by omega)
    omega
  case round =>
    obtain ⟨t, M, rfl, rfl, ht, hM, hI⟩ := hrel
    by_cases hlt : 4 < M
    · have hlt2 : (M : Int) > 4 := by omega
      obtain ⟨M2, hM2⟩ : ∃ M2, M2 = M / 2 := ⟨_, rfl⟩
      have q1 : (M : Int).tdiv 2 = (M2 : Int) := by rw [Int.tdiv_eq_ediv_of_nonneg (by omega)]; omega
      have q0 : (M : Int) / 2 = (M2 : Int) := by omega
      have q2 : IntKind.i64.wrap (M2 : Int) = (M2 : Int) := by rw [IntKind.wrap_i64]; omega
      have hts : IntKind.i64.wrap ((t : Int) + 1) = (t : Int) + 1 := by rw [IntKind.wrap_i64]; omega
      have hJt : 2 < J - t := by
        rcases Nat.lt_or_ge 2 (J - t) with g | g
        · exact g
        · have : 2 ^ (J - t) ≤ 2 ^ 2 := Nat.pow_le_pow_right (by omega) g
          have := hI.out.2
          omega
      have HE : Hid (t + 1 ≤ m ∧ M2 = 2 ^ (J - (t + 1))) := by
        have := HMJ.out
        refine ⟨by omega, ?_⟩
        have e : 2 ^ (J - t) = 2 ^ (J - (t + 1) + 1) := by congr 1; omega
        rw [hM2, hI.out.2, e, Nat.pow_succ]
        omega
      have hm2 : M2 ≤ 65536 := by omega
      clear hI hM2 hJt
      go_wp2_with fail
      go_round
      case rel => exact ⟨t + 1, M2, by go_num, rfl, by have := HE.out.1; have := HMJ.out; omega, hm2, HE⟩
      case measure => simp [intOf]; have := HE.out.1; have := HMJ.out; omega
    · have hlt2 : ¬ (M : Int) > 4 := by omega
      have htm : t = m := by
        have h1 := HMJ.out
        have h2 := hI.out
        rcases Nat.lt_or_ge 2 (J - t) with g | g
        · have : 2 ^ 3 ≤ 2 ^ (J - t) := Nat.pow_le_pow_right (by omega) g
          omega
        · omega
      clear hI
      have o0 := thr0 HO1.out
      have u1 : ((rl : Int) != (t : Int)) = true := by simp; omega
      clear htm hm
      go_wp2_with fail
      go_ret2
      exact ⟨rfl, HB1.out⟩

end Go.Proofs.YtfppkjpgihnibaaGreatDoor
