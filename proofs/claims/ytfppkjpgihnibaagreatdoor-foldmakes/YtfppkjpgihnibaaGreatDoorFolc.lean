/- attestref5: Fault, pairs, modulo, places. attestref5: places, Shows. Openings in memory; attestref5.path. attestref5.Check. attestref5.Check, where it has as many Roots as rounds. attestref5.Check, where it has more or fewer Roots than rounds; attestsame.Folds. -/
import Derived.Test.YtfppkjpgihnibaaGreatDoorFolR
import Derived.Test.YtfppkjpgihnibaaGreatDoorChnA
import Derived.Test.YtfppkjpgihnibaaGreatDoorTres
import Derived.Test.YtfppkjpgihnibaaGreatDoorTreI
namespace Go.Proofs.YtfppkjpgihnibaaGreatDoor
open Go.RowKit

/-! ## each once, ascending -/
def insz (x : Int) : List Int → List Int
  | [] => [x]
  | y :: r => if x < y then x :: y :: r else if x = y then y :: r else y :: insz x r
theorem mem_insz (x z : Int) : ∀ os : List Int, z ∈ insz x os ↔ z = x ∨ z ∈ os
  | [] => by simp [insz]
  | y :: r => by
    unfold insz
    split
    · simp
    · split
      · rename_i h; subst h; simp
      · simp only [List.mem_cons, mem_insz x z r]
        constructor
        · rintro (h | h | h)
          · exact .inr (.inl h)
          · exact .inl h
          · exact .inr (.inr h)
        · rintro (h | h | h)
          · exact .inr (.inl h)
          · exact .inl h
          · exact .inr (.inr h)
theorem asc_insz (x : Int) : ∀ os : List Int, Asc os → Asc (insz x os)
  | [], _ => by simp [insz, Asc]
  | y :: r, h => by
    have h1 := List.pairwise_cons.1 h
    unfold insz
    split
    · rename_i hx
      refine List.pairwise_cons.2 ⟨fun z hz => ?_, h⟩
      rcases List.mem_cons.1 hz with rfl | hz
      · exact hx
      · have := h1.1 z hz; omega
    · split
      · exact h
      · refine List.pairwise_cons.2 ⟨fun z hz => ?_, asc_insz x r h1.2⟩
        rcases (mem_insz x z r).1 hz with rfl | hz
        · omega
        · exact h1.1 z hz
def onc (ps : List Int) : List Int := ps.foldr insz []
theorem onc_is (ps : List Int) : OnceIs ps (onc ps) := by
  induction ps with
  | nil => exact ⟨by simp [onc, Asc], fun x => by simp [onc]⟩
  | cons a r ih =>
    refine ⟨asc_insz a _ ih.1, fun x => ?_⟩
    show x ∈ insz a (onc r) ↔ _
    rw [mem_insz, List.mem_cons, ih.2]
theorem onc_eq {ps os : List Int} (h : OnceIs ps os) : os = onc ps := h.unique (onc_is ps)

/-! ## Fault -/
/-- a power of 2, at most so great -/
def twb (h : Nat) (k : Int) : Bool := (List.range 17).any (fun j => decide (2 ^ j ≤ h ∧ k = ((2 ^ j : Nat) : Int)))
theorem twb_iff {h : Nat} {k : Int} (hh : h ≤ 65536) : twb h k = true ↔ ∃ j : Nat, 2 ^ j ≤ h ∧ k = ((2 ^ j : Nat) : Int) := by
  unfold twb
  rw [List.any_eq_true]
  constructor
  · rintro ⟨j, _, hj⟩
    exact ⟨j, of_decide_eq_true hj⟩
  · rintro ⟨j, h1, h2⟩
    refine ⟨j, List.mem_range.2 ?_, decide_eq_true ⟨h1, h2⟩⟩
    rcases Nat.lt_or_ge 16 j with g | g
    · have : 2 ^ 17 ≤ 2 ^ j := Nat.pow_le_pow_right (by omega) g
      omega
    · omega
def fz5 (N : Nat) (k asked : Int) : Int := if 2 ≤ N ∧ twb (N / 2) k = true ∧ 1 ≤ asked ∧ asked ≤ 64 then 0 else 2

set_option maxRecDepth 100000 in
set_option maxHeartbeats 1000000 in
theorem rfault5_any (N : Nat) (p s r k asked : Int) (w : World) (hN : N ≤ 65536) :
    Calls Tryz.prog 9 #[.agg #[.int .i64 p, .int .i64 (N : Int), .int .i64 s, .int .i64 r], .int .i64 k, .int .i64 asked] w fun e w' => e = .returned (.int .i64 (fz5 N k asked)) ∧ Below w.heap.size w w' := by
  have HB0 : Hid (Below w.heap.size w (w.alloc (.cells #[.int .i64 p, .int .i64 (N : Int), .int .i64 s, .int .i64 r] 26))) := (Below.refl _ _).alloc (Nat.le_refl _) _
  have d1 := four1 (heap_alloc_new w (.cells #[.int .i64 p, .int .i64 (N : Int), .int .i64 s, .int .i64 r] 26))
  obtain ⟨h, hh⟩ : ∃ h, h = N / 2 := ⟨_, rfl⟩
  have q0 : (N : Int) / 2 = (h : Int) := by omega
  have q1 : (N : Int).tdiv 2 = (h : Int) := by rw [Int.tdiv_eq_ediv_of_nonneg (by omega)]; omega
  have q2 : IntKind.i64.wrap (h : Int) = (h : Int) := by rw [IntKind.wrap_i64]; omega
  have hh2 : h ≤ 32768 := by omega
  have HFZ : Hid (fz5 N k asked = if 2 ≤ N ∧ twb h k = true ∧ 1 ≤ asked ∧ asked ≤ 64 then 0 else 2) := by unfold Hid fz5; rw [hh]
  obtain ⟨FZ, hFZ⟩ : ∃ FZ, FZ = fz5 N k asked := ⟨_, rfl⟩
  rw [← hFZ] at HFZ ⊢
  clear hh hFZ
  go_enter Tryz.func9, Tryz.ntmps9
  go_wp2_with fail
  generalize w.alloc (.cells #[.int .i64 p, .int .i64 (N : Int), .int .i64 s, .int .i64 r] 26) = W0 at *
  go_loop [7, 8] (fun tv nv => ∃ (j M : Nat) (t : Bool), nv = .int .i64 (M : Int) ∧ tv = .bool t ∧ 1 ≤ M ∧ M ≤ 65536 ∧ Hid (M = 2 ^ j ∧ (t = true ↔ ∃ i, i < j ∧ k = ((2 ^ i : Nat) : Int)) ∧ (∀ i, i < j → 2 ^ i ≤ h))) (fun _ nv => 65537 - (intOf nv).toNat)
  case atStart => exact ⟨0, 1, false, rfl, rfl, by omega, by omega, rfl, by simp, fun i hi => by omega⟩
  case round =>
    obtain ⟨j, M, t, rfl, rfl, hM1, hM2, hI⟩ := hrel
    by_cases hlt : M ≤ h
    · have hlt2 : (M : Int) ≤ (h : Int) := by omega
      have hw : IntKind.i64.wrap ((M : Int) * 2) = (M : Int) * 2 := by rw [IntKind.wrap_i64]; omega
      obtain ⟨t', ht'⟩ : ∃ t', t' = (t || decide ((M : Int) = k)) := ⟨_, rfl⟩
      have HE : Hid (M * 2 = 2 ^ (j + 1) ∧ (t' = true ↔ ∃ i, i < j + 1 ∧ k = ((2 ^ i : Nat) : Int)) ∧ (∀ i, i < j + 1 → 2 ^ i ≤ h)) := by
        obtain ⟨e1, e2, e3⟩ := hI.out
        refine ⟨by rw [Nat.pow_succ, ← e1], ?_, fun i hi => ?_⟩
        · rw [ht', Bool.or_eq_true, e2, decide_eq_true_eq]
          constructor
          · rintro (⟨i, h1, h2⟩ | h)
            · exact ⟨i, by omega, h2⟩
            · exact ⟨j, by omega, by rw [← e1]; exact h.symm⟩
          · rintro ⟨i, h1, h2⟩
            by_cases e : i = j
            · right; rw [e1, h2, e]
            · exact .inl ⟨i, by omega, h2⟩
        · by_cases e : i = j
          · rw [e, ← e1]; exact hlt
          · exact e3 i (by omega)
      have hM3 : M * 2 ≤ 65536 := by omega
      clear hI
      cases t with
      | true =>
        obtain rfl : t' = true := by simpa using ht'
        clear ht'
        go_wp2_with fail
        go_round
        case rel => exact ⟨j + 1, M * 2, true, by go_num, rfl, by omega, hM3, HE⟩
        case measure => simp [intOf]; omega
      | false =>
        by_cases he : (M : Int) = k
        · obtain rfl : t' = true := by simpa [he] using ht'
          have he2 : ((M : Int) == k) = true := by simp [he]
          clear ht' he
          go_wp2_with fail
          go_round
          case rel => exact ⟨j + 1, M * 2, true, by go_num, rfl, by omega, hM3, HE⟩
          case measure => simp [intOf]; omega
        · obtain rfl : t' = false := by simpa [he] using ht'
          have he2 : ((M : Int) == k) = false := by simp [he]
          clear ht' he
          go_wp2_with fail
          go_round
          case rel => exact ⟨j + 1, M * 2, false, by go_num, rfl, by omega, hM3, HE⟩
          case measure => simp [intOf]; omega
    · have hlt2 : ¬ (M : Int) ≤ (h : Int) := by omega
      have HTW : Hid (twb h k = t) := by
        obtain ⟨e1, e2, e3⟩ := hI.out
        unfold Hid
        rw [Bool.eq_iff_iff, twb_iff (by omega), e2]
        constructor
        · rintro ⟨i, h1, h2⟩
          refine ⟨i, ?_, h2⟩
          rcases Nat.lt_or_ge i j with g | g
          · exact g
          · have : 2 ^ j ≤ 2 ^ i := Nat.pow_le_pow_right (by omega) g
            omega
        · rintro ⟨i, h1, h2⟩
          exact ⟨i, e3 i h1, h2⟩
      clear hI
      rw [HTW.out] at HFZ
      by_cases u1 : (N : Int) < 2
      · have HE : Hid (FZ = 2) := by unfold Hid; rw [HFZ.out, if_neg (by omega)]
        go_wp2_with fail
        go_ret
        exact ⟨by rw [HE.out]; rfl, HB0.out⟩
      cases t with
      | false =>
        have HE : Hid (FZ = 2) := by unfold Hid; rw [HFZ.out, if_neg (by simp)]
        go_wp2_with fail
        go_ret
        exact ⟨by rw [HE.out]; rfl, HB0.out⟩
      | true =>
        by_cases u2 : asked < 1
        · have HE : Hid (FZ = 2) := by unfold Hid; rw [HFZ.out, if_neg (by omega)]
          go_wp2_with fail
          go_ret
          exact ⟨by rw [HE.out]; rfl, HB0.out⟩
        by_cases u3 : asked > 64
        · have HE : Hid (FZ = 2) := by unfold Hid; rw [HFZ.out, if_neg (by omega)]
          go_wp2_with fail
          go_ret
          exact ⟨by rw [HE.out]; rfl, HB0.out⟩
        have HE : Hid (FZ = 0) := by unfold Hid; rw [HFZ.out, if_pos ⟨by omega, rfl, by omega, by omega⟩]
        go_wp2_with fail
        go_ret
        exact ⟨by rw [HE.out]; rfl, HB0.out⟩

/-! ## pairs -/
def prs5 (p : Nat) (word : List Int) : List (List Int) := (List.range (word.length / 2)).map (fun i => [zat word i % (p : Int), zat word (i + word.length / 2) % (p : Int)])
theorem prs5_len (p : Nat) (word : List Int) : (prs5 p word).length = word.length / 2 := by simp [prs5]
theorem prs5_rat {p : Nat} {word : List Int} {i : Nat} (h : i < word.length / 2) : rat (prs5 p word) i = [zat word i % (p : Int), zat word (i + word.length / 2) % (p : Int)] := by simp [rat, prs5, h]
theorem slr_two (w : World) (x y : Int) : SlR (w.alloc (.cells #[.int .i64 x, .int .i64 y] 3)) [x, y] (.slice (some ⟨w.heap.size, 0, none⟩) 2 2) := by
  refine ⟨some ⟨w.heap.size, 0, none⟩, 2, rfl, ⟨fun k hk => ⟨w.heap.size, 0, rfl, by simp, ?_⟩, by simp, fun e => by cases e⟩, fun _ => ⟨w.heap.size, 0, rfl, _, 3, (0, 0), heap_alloc_new w _, by decide, by decide, by decide, by decide, by decide, by decide⟩⟩
  have : k = 0 ∨ k = 1 := by simp at hk; omega
  unfold World.cell?
  rw [show (w.alloc (.cells #[.int .i64 x, .int .i64 y] 3)).heap[(⟨w.heap.size, 0 + k, none⟩ : Addr).block]? = some (.cells #[.int .i64 x, .int .i64 y] 3 (0, 0)) from heap_alloc_new w _]
  rcases this with rfl | rfl <;> rfl

/-! ## modulo -/
def mdz (l : List Int) (n : Nat) : List Int := onc (l.map (· % (n : Int)))
theorem mdz_in {l : List Int} {n : Nat} (hn : 0 < n) : ∀ x, x ∈ mdz l n → 0 ≤ x ∧ x < (n : Int) := fun x hx => by
  obtain ⟨y, _, rfl⟩ := List.mem_map.1 (((onc_is _).2 x).1 hx)
  exact ⟨Int.emod_nonneg _ (by omega), Int.emod_lt_of_pos _ (by omega)⟩

set_option maxRecDepth 100000 in
set_option maxHeartbeats 1000000 in
theorem rmodulo_any (cap n : Nat) (a : Option Addr) (l : List Int) (w : World) (hn : 0 < n) (hn2 : n ≤ 65536) (hl : l.length ≤ 17592186043904) (hf : ∀ j, j < l.length → 0 ≤ zat l j ∧ zat l j ≤ 9223372036854775807) (hrow : RowB w.heap.size w a l) :
    Calls Tryz.prog 50 #[.slice a l.length cap, .int .i64 (n : Int)] w fun e w' => ∃ v, e = .returned v ∧ w'.ownsRow w.heap.size 3 1 v (mdz l n).length ((mdz l n).map (Value.int .i64)) ∧ Below w.heap.size w w' := by
  obtain ⟨i0, hi, hz0, hz1, hz2⟩ := info_parts Tryz.infoInt
  have HR := hid hrow
  have HF := hid hf
  obtain ⟨N, hN⟩ : ∃ N, N = l.length := ⟨_, rfl⟩
  have HNN := hid hN
  rw [← hN] at hl ⊢
  obtain ⟨G, hG⟩ : ∃ G : Nat → Int, G = fun i => zat l i % (n : Int) := ⟨_, rfl⟩
  have HMP : Hid (l.map (· % (n : Int)) = ls G N) := by
    unfold Hid ls
    rw [hG, hN]
    apply List.ext_getElem
    · simp
    · intro i h1 h2
      simp at h1
      simp [zat, h1]
  have HGG : Hid (∀ i, G i = zat l i % (n : Int)) := fun i => by rw [hG]
  have hn0 : ¬ (n : Int) = 0 := by omega
  clear hrow hf hN hG
  go_enter Tryz.func50, Tryz.ntmps50
  go_wp2_with fail
  go_loopw [5, 6] (fun v iv wr => ∃ k : Nat, k ≤ N ∧ iv = .int .i64 k ∧ Hid (wr.ownsRow w.heap.size 3 1 v (ls G k).length ((ls G k).map (Value.int .i64)) ∧ Below w.heap.size w wr)) (fun _ iv _ => N - (intOf iv).toNat)
  case atStart => exact ⟨0, by omega, rfl, World.ownsRow_nil _ _ _ _, Below.refl _ _⟩
  case round =>
    obtain ⟨k, hk, rfl, hI⟩ := hrel
    by_cases hlt : k < N
    · have hlt2 : (k : Int) < (N : Int) := by omega
      have hks : IntKind.i64.wrap ((k : Int) + 1) = (k : Int) + 1 := by rw [IntKind.wrap_i64]; omega
      obtain ⟨b, o, rfl, hb, hc⟩ := HR.out k (by rw [← HNN.out]; exact hlt)
      have hc2 := (hI.out.2.cell (p := ⟨b, o + k, none⟩) hb).trans hc
      obtain ⟨f1, f2⟩ := HF.out k (by rw [← HNN.out]; exact hlt)
      have HGk := hid (HGG.out k)
      have HSC := hid (ls_succ G k)
      have HLS := hid (ls_len G k)
      generalize zat l k = x at *
      have m1 : x.tmod (n : Int) = x % (n : Int) := Int.tmod_eq_emod_of_nonneg f1
      have m2 := Int.emod_nonneg x hn0
      have m3 := Int.emod_lt_of_pos x (show 0 < (n : Int) by omega)
      have m4 : IntKind.i64.wrap (x % (n : Int)) = x % (n : Int) := by rw [IntKind.wrap_i64]; omega
      rw [HGk.out] at HSC
      generalize x % (n : Int) = z at *
      have hown := hI.out.1
      have hbel := hI.out.2
      generalize ls G k = Z at *
      have hZ : Z.length ≤ 17592186043904 := by rw [HLS.out]; omega
      have hsz : w.heap.size ≤ wr.heap.size := hbel.size
      clear hI hc HGk
      go_wp2_with (at_builtin; refine wpList_append_own _ rfl _ _ 22 rfl w.heap.size 3 i0 (.int .i64 0) 1 8 Tryz.underlying22 hi hz0 hz1 hz2 rfl (by decide) _ _ _ rfl (hown.alloc _) ⟨wr.heap.size, 0, none⟩ 1 1 [.int .i64 z] rfl rfl ?c1 ?c2 ?c3 ?c4 ?c5 ?_)
      case c1 =>
        intro j u hj
        match j, hj with
        | 0, hj => simp at hj; subst hj; simp [Addr.add]
      case c2 => intro u hu; simp at hu; subst hu; rfl
      case c3 => unfold maxLen; omega
      case c4 => omega
      case c5 => simp; omega
      intro v' w5 hown2 hgrow _
      have hown3 := owns_succ hown2
      have HE : Hid (w5.ownsRow w.heap.size 3 1 v' (ls G (k + 1)).length ((ls G (k + 1)).map (Value.int .i64)) ∧ Below w.heap.size w w5) := by
        unfold Hid
        rw [HSC.out]
        exact ⟨hown3, (hbel.alloc hsz _).grown hgrow (by simp; omega) (fun j hj => (hown.lt j hj).1)⟩
      clear hown2 hown3 hgrow hown hbel
      go_wp2_with fail
      go_roundw
      case rel => exact ⟨k + 1, by omega, by go_num, HE⟩
      case measure => simp [intOf]; omega
    · obtain rfl : k = N := by omega
      have hlt2 : ¬ (k : Int) < (k : Int) := by omega
      obtain ⟨a1, c1, hv1, hl1⟩ := lst_of_owns hI.out.1
      subst hv1
      have HON : Hid (Calls Tryz.prog 105 #[.slice a1 (ls G k).length c1] wr fun e w' => ∃ v, e = .returned v ∧ w'.ownsRow w.heap.size 3 1 v (mdz l n).length ((mdz l n).map (Value.int .i64)) ∧ Below w.heap.size w w') := by
        refine (ronce_any c1 a1 (ls G k) wr (by rw [ls_len]; omega) hl1.row).mono ?_
        rintro e w' ⟨v, os, rfl, h1, h2, h3⟩
        have : os = mdz l n := by unfold mdz; rw [HMP.out]; exact onc_eq h1
        subst this
        exact ⟨v, rfl, World.ownsRow.mono h2 hI.out.2.size, hI.out.2.trans (h3.mono hI.out.2.size)⟩
      generalize (ls G k).length = Lk at *
      clear hI hl1
      go_wp2_with fail
      refine HON.out.mono ?_
      rintro e w6 ⟨v6, rfl, ho6, hb6⟩
      have HE : Hid (w6.ownsRow w.heap.size 3 1 v6 (mdz l n).length ((mdz l n).map (Value.int .i64)) ∧ Below w.heap.size w w6) := ⟨ho6, hb6⟩
      clear ho6 hb6 HON
      go_wp2_with fail
      go_ret
      exact ⟨_, rfl, HE.out⟩

end Go.Proofs.YtfppkjpgihnibaaGreatDoor

namespace Go.Proofs.YtfppkjpgihnibaaGreatDoor
open Go.RowKit

theorem RCn.below {q : Nat} {w w' : World} {r : Nat} {D : List Int} {lo : Nat} (h : RCn q w r D lo) (e : Below w.heap.size w w') : RCn q w' r D lo := by
  obtain ⟨g, c, h1, h2, h3⟩ := h
  exact ⟨g, c, (e.block _ (Array.getElem?_eq_some_iff.1 h1).1).trans h1, h2.below e, h3⟩

set_option maxRecDepth 100000 in
set_option maxHeartbeats 1000000 in
theorem rplace_new (q n r : Nat) (N : Int) (D : List Int) (w : World) (h5 : 5 ≤ q) (h4 : q ≤ 2147483647) (hpn : Spo.PowIs q n) (hlen : D.length ≤ 17592186044000) (hfd : Fits D) (hr : RCh q w r D) (hN1 : 1 ≤ N) (hN2 : N ≤ 65536) :
    Calls Tryz.prog 104 #[.pointer (some ⟨r, 0, none⟩), .int .i64 N] w fun e w' => e = .returned (.int .i64 ((zat (digl q n (4 :: D)) 0 * q + zat (digl q n (4 :: D)) 1) % N)) ∧ RCn q w' r (digl q n (4 :: D)) w.heap.size ∧ w.grownBy w' (some r) := by
  have HS := hid (rstep_new q n r 0 4 none [] D w h5 h4 hpn (by omega) (by simpa using hlen) hfd (fun j hj => by simp at hj) hr (numL_nil w).1)
  rw [List.append_nil, List.length_nil] at HS
  have t1 : ¬ N < 1 := by omega
  have t2 : ¬ 65536 < N := by omega
  have hbd : ∀ j, j < 4 → 0 ≤ zat (digl q n (4 :: D)) j ∧ zat (digl q n (4 :: D)) j < (q : Int) := fun j hj => by
    unfold digl
    rw [ls_at _ _ _ hj]
    have := hst_bounds q n (pdf q (zat (4 :: D)) (4 :: D).length) ((4 :: D).length / 4 + 1) j (by omega)
    omega
  have hz0 := hbd 0 (by omega)
  have hz1 := hbd 1 (by omega)
  clear hpn hfd hr hbd
  go_enter Tryz.func104, Tryz.ntmps104
  go_wp2_with fail
  refine HS.out.mono ?_
  rintro e w1 ⟨rfl, hr, hg⟩
  have HE : Hid (RCn q w1 r (digl q n (4 :: D)) w.heap.size ∧ w.grownBy w1 (some r)) := ⟨hr, hg⟩
  obtain ⟨a, c, hb, hn⟩ := hr.rch
  rw [digl_len] at hb
  have c0 := duo0 hb
  have c1 := duo1 hb
  obtain ⟨g, o, rfl, _, hc0⟩ := hn.1.row 0 (by rw [digl_len]; omega)
  obtain ⟨_, _, e1, _, hc1⟩ := hn.1.row 1 (by rw [digl_len]; omega)
  cases e1
  rw [Nat.add_zero] at hc0
  clear hg HS hb hn hr
  obtain ⟨x, hx⟩ : ∃ x, x = zat (digl q n (4 :: D)) 0 := ⟨_, rfl⟩
  obtain ⟨y, hy⟩ : ∃ y, y = zat (digl q n (4 :: D)) 1 := ⟨_, rfl⟩
  rw [← hx] at hc0 hz0
  rw [← hy] at hc1 hz1
  have HX := hid hx
  have HY := hid hy
  clear hx hy
  have hx2 : x * (q : Int) ≤ 2147483647 * 2147483647 := Int.mul_le_mul (by omega) (by omega) (by omega) (by omega)
  have hx0 : 0 ≤ x * (q : Int) := Int.mul_nonneg hz0.1 (by omega)
  obtain ⟨m, hm⟩ : ∃ m, m = x * (q : Int) := ⟨_, rfl⟩
  have HM := hid hm
  have hm2 := hm.symm
  rw [← hm] at hx2 hx0
  clear hm
  have hw1 : IntKind.i64.wrap m = m := by rw [IntKind.wrap_i64]; omega
  have hw2 : IntKind.i64.wrap (m + y) = m + y := by rw [IntKind.wrap_i64]; omega
  have hN0 : ¬ N = 0 := by omega
  have hte : (m + y).tmod N = (m + y) % N := Int.tmod_eq_emod_of_nonneg (by omega)
  have hw3 : IntKind.i64.wrap ((m + y) % N) = (m + y) % N := by
    rw [IntKind.wrap_i64]
    have := Int.emod_nonneg (m + y) hN0
    have := Int.emod_lt_of_pos (m + y) (show 0 < N by omega)
    omega
  go_wp2_with fail
  go_quiet (fail)
  go_wp2_with fail
  go_ret
  exact ⟨by rw [← HX.out, ← HY.out, ← HM.out]; rfl, HE.out.1.below (below_drewN (Below.refl _ _) _), gb_trans HE.out.2 (gb_below (below_drewN (Below.refl _ _) _))⟩

/-- a chain behind some places -/
def pld (q n : Nat) : Nat → List Int → List Int
  | 0, D => D
  | i + 1, D => digl q n (4 :: pld q n i D)
def plz (q n N : Nat) (D : List Int) (i : Nat) : Int := (zat (pld q n (i + 1) D) 0 * q + zat (pld q n (i + 1) D) 1) % (N : Int)
theorem pld_len {q n : Nat} {D : List Int} (h : D.length ≤ 17592186044000) : ∀ i, (pld q n i D).length ≤ 17592186044000
  | 0 => h
  | i + 1 => by rw [pld, digl_len]; omega
theorem pld_fits {q n : Nat} (h3 : 3 ≤ q) (h4 : q ≤ 2147483647) {D : List Int} (h : Fits D) : ∀ i, Fits (pld q n i D)
  | 0 => h
  | i + 1 => by rw [pld]; exact digl_fits h3 h4 _ _
set_option maxRecDepth 100000 in
set_option maxHeartbeats 1000000 in
theorem rplaces_any (q n r N m : Nat) (s rr : Int) (D : List Int) (w : World) (h5 : 5 ≤ q) (h4 : q ≤ 2147483647) (hpn : Spo.PowIs q n) (hlen : D.length ≤ 17592186044000) (hfd : Fits D) (hr : RCh q w r D) (hN1 : 2 ≤ N) (hN2 : N ≤ 65536) (hm : m ≤ 1000) :
    Calls Tryz.prog 49 #[.pointer (some ⟨r, 0, none⟩), .agg #[.int .i64 q, .int .i64 (N : Int), .int .i64 s, .int .i64 rr], .int .i64 (m : Int)] w fun e w' => ∃ v, e = .returned v ∧ RCh q w' r (pld q n m D) ∧ w'.ownsRow w.heap.size 3 1 v (ls (plz q n (N / 2) D) m).length ((ls (plz q n (N / 2) D) m).map (Value.int .i64)) ∧ w.grownBy w' (some r) := by
  obtain ⟨i0, hi, hz0, hz1, hz2⟩ := info_parts Tryz.infoInt
  have HPN := hid hpn
  have HLN : Hid (∀ i, (pld q n i D).length ≤ 17592186044000) := pld_len hlen
  have HFT : Hid (∀ i, Fits (pld q n i D)) := pld_fits (by omega) h4 hfd
  have hrl := hr.lt
  have hb0 : Below w.heap.size w (w.alloc (.cells #[.int .i64 q, .int .i64 (N : Int), .int .i64 s, .int .i64 rr] 26)) := (Below.refl _ _).alloc (Nat.le_refl _) _
  have HB0 := hid hb0
  have HR0 := hid (hr.below hb0)
  have HQ0 : Hid ((w.alloc (.cells #[.int .i64 q, .int .i64 (N : Int), .int .i64 s, .int .i64 rr] 26)).heap[w.heap.size]? = some (.cells #[.int .i64 q, .int .i64 (N : Int), .int .i64 s, .int .i64 rr] 26 (0, 0))) := heap_alloc_new w _
  have hsz : w.heap.size < (w.alloc (.cells #[.int .i64 q, .int .i64 (N : Int), .int .i64 s, .int .i64 rr] 26)).heap.size := by simp
  obtain ⟨h, hh⟩ : ∃ h, h = N / 2 := ⟨_, rfl⟩
  have q0 : (N : Int) / 2 = (h : Int) := by omega
  have q1 : (N : Int).tdiv 2 = (h : Int) := by rw [Int.tdiv_eq_ediv_of_nonneg (by omega)]; omega
  have q2 : IntKind.i64.wrap (h : Int) = (h : Int) := by rw [IntKind.wrap_i64]; omega
  have hh1 : 1 ≤ h := by omega
  have hh2 : h ≤ 65536 := by omega
  rw [← hh]
  obtain ⟨G, hG⟩ : ∃ G, G = plz q n h D := ⟨_, rfl⟩
  rw [← hG]
  have HGP : Hid (∀ i, G i = (zat (digl q n (4 :: pld q n i D)) 0 * q + zat (digl q n (4 :: pld q n i D)) 1) % (h : Int)) := fun i => by rw [hG]; rfl
  clear hpn hlen hfd hr hb0 hh hG
  go_enter Tryz.func49, Tryz.ntmps49
  go_wp2_with fail
  generalize w.alloc (.cells #[.int .i64 q, .int .i64 (N : Int), .int .i64 s, .int .i64 rr] 26) = W0 at *
  go_loopw [7, 8] (fun v iv wr => ∃ k : Nat, k ≤ m ∧ iv = .int .i64 k ∧ Hid (RCh q wr r (pld q n k D) ∧ wr.ownsRow W0.heap.size 3 1 v (ls G k).length ((ls G k).map (Value.int .i64)) ∧ W0.grownBy wr (some r))) (fun _ iv _ => m - (intOf iv).toNat)
  case atStart => exact ⟨0, by omega, rfl, HR0.out, World.ownsRow_nil _ _ _ _, gb_refl _ _⟩
  case round =>
    obtain ⟨k, hk, rfl, hI⟩ := hrel
    by_cases hlt : k < m
    · have hlt2 : (k : Int) < (m : Int) := by omega
      have hks : IntKind.i64.wrap ((k : Int) + 1) = (k : Int) + 1 := by rw [IntKind.wrap_i64]; omega
      have hq := (gb_blk hI.out.2.2 hsz (by omega)).trans HQ0.out
      have d1 := four1 hq
      have HPL := hid (rplace_new q n r (h : Int) (pld q n k D) wr h5 h4 HPN.out (HLN.out k) (HFT.out k) hI.out.1 (by omega) (by omega))
      rw [← HGP.out k] at HPL
      have HSC := hid (ls_succ G k)
      have HLS := hid (ls_len G k)
      generalize G k = z at *
      have HII := hI
      have hW0 : W0.heap.size ≤ wr.heap.size := hI.out.2.2.size
      clear hI hq
      go_wp2_with fail
      refine HPL.out.mono ?_
      rintro e w1 ⟨rfl, hrc, hg1⟩
      have hob : ∀ (v : Value) (xs : List Value) (n' : Nat), wr.ownsRow W0.heap.size 3 1 v n' xs → v.ownBlock = none ∨ v.ownBlock ≠ some r := fun v xs n' ho => by
        rcases ho.2 with ⟨rfl, _⟩ | ⟨g, cap, cur, rfl, _, hg, _⟩
        · exact .inl rfl
        · right
          intro e
          simp [Value.ownBlock] at e
          subst e
          exact HII.out.1.not _ _ hg
      have hown := HII.out.2.1.kept hg1 (hob _ _ _ HII.out.2.1)
      have holt := HII.out.2.1.lt
      have hg0 := gb_trans HII.out.2.2 hg1
      have hne := hob _ _ _ HII.out.2.1
      have hrn := hrc.below ((Below.refl _ _).alloc (Nat.le_refl _) (.cells #[.int .i64 z] 3))
      have hs1 := hg1.size
      generalize ls G k = Z at *
      have hZ : Z.length ≤ 17592186043904 := by rw [HLS.out]; omega
      clear HII HPL hrc hg1 hob
      go_wp2_with (at_builtin; refine wpList_append_own _ rfl _ _ 22 rfl W0.heap.size 3 i0 (.int .i64 0) 1 8 Tryz.underlying22 hi hz0 hz1 hz2 rfl (by decide) _ _ _ rfl (hown.alloc _) ⟨w1.heap.size, 0, none⟩ 1 1 [.int .i64 z] rfl rfl ?c1 ?c2 ?c3 ?c4 ?c5 ?_)
      case c1 =>
        intro j u hj
        match j, hj with
        | 0, hj => simp at hj; subst hj; simp [Addr.add]
      case c2 => intro u hu; simp at hu; subst hu; rfl
      case c3 => unfold maxLen; omega
      case c4 => omega
      case c5 => simp; omega
      intro v' w5 hown2 hgrow _
      have hown3 := owns_succ hown2
      have HE : Hid (RCh q w5 r (pld q n (k + 1) D) ∧ w5.ownsRow W0.heap.size 3 1 v' (ls G (k + 1)).length ((ls G (k + 1)).map (Value.int .i64)) ∧ W0.grownBy w5 (some r)) := by
        refine ⟨hrn.own hgrow (fun e => ?_) (fun g hg => (holt g hg).2), by rw [HSC.out]; exact hown3, ?_⟩
        · rcases hne with h0 | h0
          · rw [h0] at e; cases e
          · exact h0 e.symm
        · have hg2 : (w1.alloc (.cells #[.int .i64 z] 3)).heap.size = w1.heap.size + 1 := by simp
          refine ⟨hgrow.os.trans hg0.os, hgrow.tape.trans hg0.tape, hgrow.output.trans hg0.output, by have := hgrow.size; have := hg0.size; omega, fun b hb hbr => ?_⟩
          have := hg0.size
          refine (hgrow.block b (by omega) (fun e => ?_)).trans ((Below.heap_alloc w1 _ b (by omega)).trans (hg0.block b hb hbr))
          have := (holt b e.symm).1
          omega
      clear hown2 hown3 hgrow hown holt hg0 hne hrn
      go_wp2_with fail
      go_roundw
      case rel => exact ⟨k + 1, by omega, by go_num, HE⟩
      case measure => simp [intOf]; omega
    · obtain rfl : k = m := by omega
      have hlt2 : ¬ (k : Int) < (k : Int) := by omega
      have HE : Hid (RCh q wr r (pld q n k D) ∧ (∃ v, v = v) ∧ W0.grownBy wr (some r)) := ⟨hI.out.1, ⟨0, rfl⟩, hI.out.2.2⟩
      have HO := hid (World.ownsRow.mono hI.out.2.1 HB0.out.size)
      clear hI
      go_wp2_with fail
      go_ret
      exact ⟨_, rfl, HE.out.1, HO.out, gb_trans (gb_below HB0.out) HE.out.2.2⟩

end Go.Proofs.YtfppkjpgihnibaaGreatDoor

namespace Go.Proofs.YtfppkjpgihnibaaGreatDoor
open Go.RowKit

/-- an Opening -/
structure OnZ where
  ps : List Int
  rows : List (List Int)
  nodes : List (List Int)
def onat (s : List OnZ) (k : Nat) : OnZ := s.getD k ⟨[], [], []⟩
/-- Openings in memory -/
structure LstF (n0 : Nat) (w : World) (a : Option Addr) (cap : Nat) (s : List OnZ) : Prop where
  row : ∀ k, k < s.length → ∃ b o ap cp ar cr an' cn, a = some ⟨b, o, none⟩ ∧ b < n0 ∧ w.cell? ⟨b, o + k * 3, none⟩ = some (.slice ap (onat s k).ps.length cp) ∧ w.cell? ⟨b, o + k * 3 + 1, none⟩ = some (.slice ar (onat s k).rows.length cr) ∧ w.cell? ⟨b, o + k * 3 + 2, none⟩ = some (.slice an' (onat s k).nodes.length cn) ∧ Lst n0 w ap cp (onat s k).ps ∧ LstR n0 w ar cr (onat s k).rows ∧ LstR n0 w an' cn (onat s k).nodes
  room : s.length ≤ cap
  nil : a = none → cap = 0
theorem LstF.below {n0 : Nat} {A B : World} {a : Option Addr} {cap : Nat} {s : List OnZ} (r : LstF n0 A a cap s) (h : Below n0 A B) : LstF n0 B a cap s :=
  ⟨fun k hk => by
    obtain ⟨b, o, ap, cp, ar, cr, an', cn, h1, h2, h3, h4, h5, h6, h7, h8⟩ := r.row k hk
    exact ⟨b, o, ap, cp, ar, cr, an', cn, h1, h2, (h.cell (p := ⟨b, o + k * 3, none⟩) h2).trans h3, (h.cell (p := ⟨b, o + k * 3 + 1, none⟩) h2).trans h4, (h.cell (p := ⟨b, o + k * 3 + 2, none⟩) h2).trans h5, h6.below h, h7.below h, h8.below h⟩, r.room, r.nil⟩
theorem LstF.mono {n0 n1 : Nat} {A : World} {a : Option Addr} {cap : Nat} {s : List OnZ} (r : LstF n0 A a cap s) (h : n0 ≤ n1) : LstF n1 A a cap s :=
  ⟨fun k hk => by
    obtain ⟨b, o, ap, cp, ar, cr, an', cn, h1, h2, h3, h4, h5, h6, h7, h8⟩ := r.row k hk
    exact ⟨b, o, ap, cp, ar, cr, an', cn, h1, by omega, h3, h4, h5, h6.mono h, h7.mono h, h8.mono h⟩, r.room, r.nil⟩

theorem thr0 {W : World} {g : Nat} {a b c : Value} {t : TypeId} (h : W.heap[g]? = some (.cells #[a, b, c] t (0, 0))) : W.cell? ⟨g, 0, none⟩ = some a := by simp [World.cell?, h]
theorem thr1 {W : World} {g : Nat} {a b c : Value} {t : TypeId} (h : W.heap[g]? = some (.cells #[a, b, c] t (0, 0))) : W.cell? ⟨g, 1, none⟩ = some b := by simp [World.cell?, h]
theorem thr2 {W : World} {g : Nat} {a b c : Value} {t : TypeId} (h : W.heap[g]? = some (.cells #[a, b, c] t (0, 0))) : W.cell? ⟨g, 2, none⟩ = some c := by simp [World.cell?, h]
theorem fourF {W : World} {g : Nat} {a b c d : Value} {t : TypeId} (h : W.heap[g]? = some (.cells #[a, b, c, d] t (0, 0))) (i : Nat) : W.frozen? ⟨g, i, none⟩ = false := by simp [World.frozen?, h]
theorem four_row {W : World} {g : Nat} {a b c d : Value} {t : TypeId} (h : W.heap[g]? = some (.cells #[a, b, c, d] t (0, 0))) : W.rowIs g t 4 (quad a b c d) :=
  ⟨#[a, b, c, d], h, rfl, fun i hi => by
    have : i = 0 ∨ i = 1 ∨ i = 2 ∨ i = 3 := by omega
    rcases this with rfl | rfl | rfl | rfl <;> rfl⟩
theorem four_put {W : World} {g : Nat} {a b c d : Value} {t : TypeId} (h : W.heap[g]? = some (.cells #[a, b, c, d] t (0, 0))) (a' b' c' d' : Value) : ((((W.setCell ⟨g, 0, none⟩ a').setCell ⟨g, 1, none⟩ b').setCell ⟨g, 2, none⟩ c').setCell ⟨g, 3, none⟩ d').heap[g]? = some (.cells #[a', b', c', d'] t (0, 0)) := quad_arr (quad_set (four_row h) a' b' c' d')

/-- squared so often -/
def sqi (q : Nat) (a : Int) : Nat → Int
  | 0 => a
  | i + 1 => sqi q a i * sqi q a i % (q : Int)
theorem sqi_bounds {q : Nat} (h3 : 3 ≤ q) {a : Int} (h0 : 0 ≤ a) (h1 : a < q) : ∀ i, 0 ≤ sqi q a i ∧ sqi q a i < q
  | 0 => ⟨h0, h1⟩
  | _ + 1 => emod_bounds _ q h3
/-- what an Opening has to be for a place -/
structure OnOk (o : OnZ) (pl : Nat) : Prop where
  len : o.rows.length = o.ps.length
  plen : o.ps.length ≤ 281474976710656
  two : ∀ k, k < o.rows.length → (rat o.rows k).length = 2
  fit : ∀ k, k < o.rows.length → Fits (rat o.rows k)
  is : ∃ j, j < o.ps.length ∧ zat o.ps j = (pl : Int)

/-- what stands in a round of path -/
structure PthI (q N B : Nat) (s r : Int) (vr vl vo : Value) (w W : World) : Prop where
  bel : Below w.heap.size w W
  dom : W.heap[B]? = some (.cells #[.int .i64 q, .int .i64 (N : Int), .int .i64 s, .int .i64 r] 26 (0, 0))
  obj : W.heap[B + 1]? = some (.cells #[vr, vl, vo] 36 (0, 0))
theorem PthI.step {q N B : Nat} {s r : Int} {vr vl vo : Value} {w W W' : World} (h : PthI q N B s r vr vl vo w W) (e : Below W.heap.size W W') : PthI q N B s r vr vl vo w W' :=
  ⟨h.bel.trans (e.mono h.bel.size), (e.block _ (Array.getElem?_eq_some_iff.1 h.dom).1).trans h.dom, (e.block _ (Array.getElem?_eq_some_iff.1 h.obj).1).trans h.obj⟩
theorem PthI.put {q N B : Nat} {s r : Int} {vr vl vo : Value} {w W : World} (h : PthI q N B s r vr vl vo w W) (hB : w.heap.size ≤ B) (N' : Nat) (s' r' : Int) : PthI q N' B s' r' vr vl vo w ((((W.setCell ⟨B, 0, none⟩ (.int .i64 q)).setCell ⟨B, 1, none⟩ (.int .i64 (N' : Int))).setCell ⟨B, 2, none⟩ (.int .i64 s')).setCell ⟨B, 3, none⟩ (.int .i64 r')) :=
  ⟨(((h.bel.setCell (p := ⟨B, 0, none⟩) hB _).setCell (p := ⟨B, 1, none⟩) hB _).setCell (p := ⟨B, 2, none⟩) hB _).setCell (p := ⟨B, 3, none⟩) hB _, four_put h.dom _ _ _ _, by
    rw [Below.heap_setCell _ _ _ _ (by show B + 1 ≠ B; omega), Below.heap_setCell _ _ _ _ (by show B + 1 ≠ B; omega), Below.heap_setCell _ _ _ _ (by show B + 1 ≠ B; omega), Below.heap_setCell _ _ _ _ (by show B + 1 ≠ B; omega)]
    exact h.obj⟩

end Go.Proofs.YtfppkjpgihnibaaGreatDoor

namespace Go.Proofs.YtfppkjpgihnibaaGreatDoor
open Go.RowKit

/-- what stands while the chain goes on -/
structure CkI (q NK B r : Nat) (s rr : Int) (vr vl vo : Value) (w W : World) : Prop where
  gb : w.grownBy W (some r)
  dom : W.heap[B]? = some (.cells #[.int .i64 q, .int .i64 (NK : Int), .int .i64 s, .int .i64 rr] 26 (0, 0))
  obj : W.heap[B + 1]? = some (.cells #[vr, vl, vo] 36 (0, 0))
  hr : r < B
theorem CkI.chain {q NK B r : Nat} {s rr : Int} {vr vl vo : Value} {w W W' : World} (h : CkI q NK B r s rr vr vl vo w W) (e : W.grownBy W' (some r)) : CkI q NK B r s rr vr vl vo w W' := by
  have hr := h.hr
  exact ⟨gb_trans h.gb e, (gb_blk e (Array.getElem?_eq_some_iff.1 h.dom).1 (by omega)).trans h.dom, (gb_blk e (Array.getElem?_eq_some_iff.1 h.obj).1 (by omega)).trans h.obj, hr⟩
theorem CkI.step {q NK B r : Nat} {s rr : Int} {vr vl vo : Value} {w W W' : World} (h : CkI q NK B r s rr vr vl vo w W) (e : Below W.heap.size W W') : CkI q NK B r s rr vr vl vo w W' := h.chain (gb_below e)
theorem CkI.bel {q NK B r n0 : Nat} {s rr : Int} {vr vl vo : Value} {w W : World} (h : CkI q NK B r s rr vr vl vo w W) (h1 : n0 ≤ r) (h2 : n0 ≤ w.heap.size) : Below n0 w W := gb_to h.gb h1 h2
/-- the chain behind some rounds -/
def ckD (q n : Nat) (roots : List (List Int)) (D : List Int) : Nat → List Int
  | 0 => D
  | i + 1 => digl q n (4 :: digl q n (3 :: (ckD q n roots D i ++ rat roots i)))
def ckL (q n : Nat) (roots : List (List Int)) (last D : List Int) (m : Nat) : List Int := digl q n (3 :: (ckD q n roots D m ++ last))
def ckA (q n K : Nat) (roots : List (List Int)) (last D : List Int) (m a : Nat) : List Int := ls (plz q n (2 ^ K / 2) (ckL q n roots last D m)) a
end Go.Proofs.YtfppkjpgihnibaaGreatDoor

namespace Go.Proofs.YtfppkjpgihnibaaGreatDoor
open Go.RowKit

theorem fz5_ok {K J a : Nat} (hK : K ≤ 16) (hJ : J + 1 ≤ K) (ha1 : 1 ≤ a) (ha : a ≤ 64) : fz5 (2 ^ K) ((2 ^ J : Nat) : Int) (a : Int) = 0 := by
  have h1 : 2 ^ (J + 1) ≤ 2 ^ K := Nat.pow_le_pow_right (by omega) hJ
  have h2 : 2 ^ K ≤ 2 ^ 16 := Nat.pow_le_pow_right (by omega) hK
  have h0 : 0 < 2 ^ J := Nat.pow_pos (by decide)
  rw [Nat.pow_succ] at h1
  unfold fz5
  rw [if_pos ⟨by omega, (twb_iff (by omega)).2 ⟨J, by omega, rfl⟩, by omega, by omega⟩]

end Go.Proofs.YtfppkjpgihnibaaGreatDoor

namespace Go.Proofs.YtfppkjpgihnibaaGreatDoor
open Go.RowKit

end Go.Proofs.YtfppkjpgihnibaaGreatDoor
