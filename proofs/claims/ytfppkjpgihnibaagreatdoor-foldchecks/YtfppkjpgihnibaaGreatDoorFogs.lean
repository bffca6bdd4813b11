/- Package fold: within, mayShow. Package fold: domains. Package fold: arePairs; slices.ContainsFunc of rows, and of numbers. Package fold: drawPlaces; what is known of a word: shownWords' functions. Package fold: what is known of a word (shownWords' functions); foldsTo. Package fold: foldsTo. -/
import Derived.Test.YtfppkjpgihnibaaGreatDoorFogA
import Derived.Test.YtfppkjpgihnibaaGreatDoorTrhE
import Derived.Test.YtfppkjpgihnibaaGreatDoorFolG
import Derived.Test.YtfppkjpgihnibaaGreatDoorChnz
import Derived.Test.YtfppkjpgihnibaaGreatDoorTrhs
import Derived.Test.YtfppkjpgihnibaaGreatDoorSpgs
import Derived.Test.YtfppkjpgihnibaaGreatDoorTrgx
import Derived.Deep.RegionHeld3
namespace Go.Proofs.YtfppkjpgihnibaaGreatDoor
open Go.RowKit Go.Sort

theorem arr_owns {w : World} {base g n : Nat} {f : Nat → Int} {zs : List Int} (h : ArrI w g 3 n f) (hb : base ≤ g) (hn : n ≤ maxLen) (hl : zs.length = n) (hz : ∀ j, j < n → zat zs j = f j) : w.ownsRow base 3 1 (.slice (some ⟨g, 0, none⟩) zs.length n) zs.length (zs.map (Value.int .i64)) := by
  refine ⟨by simp, .inr ⟨g, n, an n f, rfl, hb, h.heap, by omega, hn, by rw [an_size]; omega, ?_⟩⟩
  refine List.ext_getElem? fun j => ?_
  rcases Nat.lt_or_ge j n with g | g
  · rw [List.getElem?_take_of_lt (by omega), Array.getElem?_toList, an_at g, List.getElem?_map, List.getElem?_eq_getElem (by omega)]
    have := hz j g
    rw [zat, List.getElem?_eq_getElem (by omega)] at this
    simp at this ⊢
    exact this.symm
  · rw [List.getElem?_eq_none (by rw [List.length_take]; omega), List.getElem?_eq_none (by simp; omega)]

set_option maxRecDepth 100000 in
set_option maxHeartbeats 1000000 in
/-- within: the places modulo so many rows, each once, ascending -/
theorem within_any (cap N : Nat) (a : Option Addr) (l : List Int) (w : World) (hN : 0 < N) (hN2 : N ≤ 65536) (hlen : l.length ≤ 1000) (hf : ∀ j, j < l.length → 0 ≤ zat l j ∧ zat l j ≤ 9223372036854775807) (hl : Lst w.heap.size w a cap l) :
    Calls Tryz.prog 93 #[.slice a l.length cap, .int .i64 (N : Int)] w fun e w' => ∃ v, e = .returned v ∧ w'.ownsRow w.heap.size 3 1 v (mdz l N).length ((mdz l N).map (Value.int .i64)) ∧ Below w.heap.size w w' := by
  have HL := hid hl
  have HF := hid hf
  obtain ⟨n, hn⟩ : ∃ n, n = l.length := ⟨_, rfl⟩
  rw [← hn] at hlen ⊢
  have HNN := hid hn
  have HLL : Hid ((l.map (· % (N : Int))).length = n) := by unfold Hid; rw [List.length_map, hn]
  obtain ⟨G, hG⟩ : ∃ G : Nat → Int, G = zat (l.map (· % (N : Int))) := ⟨_, rfl⟩
  have HG : Hid (∀ k, k < n → G k = zat l k % (N : Int)) := fun k hk => by
    rw [hG]
    simp [zat, List.getElem?_eq_getElem (show k < l.length by omega)]
  have HGZ := hid hG
  have hmk2 := fun w => run_make_row' (P := Tryz.prog) 22 3 (.int .i64 0) 8 Tryz.underlying22 Tryz.infoInt rfl .i64 .i64 n (by omega) (by omega) w
  have hN0 : ¬ (N : Int) = 0 := by omega
  have hNz : ((N : Int) == 0) = false := by rw [beq_eq_false_iff_ne]; omega
  clear hl hf hn hG
  go_enter Tryz.func93, Tryz.ntmps93
  go_wp2_with fail
  go_loopw [13] (fun iv wr => ∃ k : Nat, k ≤ n ∧ iv = .int .i64 k ∧ Hid (ArrI wr w.heap.size 3 n (fll G (fun _ => 0) k) ∧ Below w.heap.size w wr)) (fun iv _ => n - (intOf iv).toNat)
  case atStart => exact ⟨0, by omega, rfl, by rw [fll_zero]; exact World.rowIs_made _ _ _ _, (Below.refl _ _).alloc (Nat.le_refl _) _⟩
  case round =>
    obtain ⟨k, hk, rfl, hI⟩ := hrel
    by_cases hlt : k < n
    · have hlt2 : (k : Int) < (n : Int) := by omega
      have hks : IntKind.i64.wrap ((k : Int) + 1) = (k : Int) + 1 := by rw [IntKind.wrap_i64]; omega
      obtain ⟨b0, o0, rfl, hb0, hc⟩ := HL.out.row k (by rw [← HNN.out]; exact hlt)
      have hc2 := (hI.out.2.cell (p := ⟨b0, o0 + k, none⟩) hb0).trans hc
      obtain ⟨f1, f2⟩ := HF.out k (by rw [← HNN.out]; exact hlt)
      have HGk : Hid (G k = zat l k % (N : Int)) := HG.out k hlt
      have c1 := hI.out.1.cell hlt
      have y1 := hI.out.1.frozen k
      have HA2 := hid hI.out.1.next
      have HBL := hid (hI.out.2.setCell (p := ⟨w.heap.size, k, none⟩) (by simp) (.int .i64 (G k)))
      generalize zat l k = x at *
      have t1 : x.tmod (N : Int) = G k := by rw [HGk.out]; exact Int.tmod_eq_emod_of_nonneg f1
      have t0 : IntKind.i64.wrap (G k) = G k := by
        have h1 := Int.emod_nonneg x (show (N : Int) ≠ 0 by omega)
        have h2 := Int.emod_lt_of_pos x (show (0 : Int) < N by omega)
        rw [HGk.out, IntKind.wrap_i64]; omega
      generalize G k = y at *
      generalize fll G (fun _ => 0) k k = y0 at *
      clear hI hc HGk
      go_wp2_with fail
      go_roundw
      case rel => exact ⟨k + 1, by omega, by go_num, HA2.out, HBL.out⟩
      case measure => simp [intOf]; omega
    · obtain rfl : k = n := by omega
      have hlt2 : ¬ (k : Int) < (k : Int) := by omega
      have hA : ArrI wr w.heap.size 3 k (zat (l.map (· % (N : Int)))) := hI.out.1.congr (fun j hj => by rw [fll_all hj, HGZ.out])
      have hsz : w.heap.size < wr.heap.size := hA.lt
      obtain ⟨zs, hzs⟩ : ∃ zs, zs = l.map (· % (N : Int)) := ⟨_, rfl⟩
      have HMD : Hid (Lib.compact (zs.mergeSort fun x y => decide (x ≤ y)) = mdz l N) := by unfold Hid mdz; rw [hzs]; exact onc_eq (once_compact _)
      have HZL : Hid (zs.length = k) := by unfold Hid; rw [hzs]; exact HLL.out
      rw [← hzs] at hA
      have hrow := arr_owns (base := w.heap.size) hA (Nat.le_refl _) (by unfold maxLen; omega) HZL.out (fun j _ => rfl)
      have HB := hid hI.out.2
      clear hI HLL HGZ hzs hA
      rcases hrow.2 with ⟨e1, hz⟩ | ⟨gb, cap', cur, e1, hbase, hgb, r1, r2, r3, r4⟩
      · cases e1
      · cases e1
        rw [HZL.out] at r1
        have hH : Holds (Value.int .i64) wr w.heap.size 0 zs.toArray := holds_of_block_i hgb (by simpa using r4)
        have HS : Hid (Calls Tryz.prog 172 #[.slice (some ⟨w.heap.size, 0, none⟩) k k] wr fun e w' =>
            e = .returned (.tuple #[]) ∧ ∃ n os, w' = grow (putRow (Value.int .i64) (Sort.ahead wr n) w.heap.size 0 (zs.mergeSort fun x y => decide (x ≤ y)).toArray) os) := by
          have := Tryz.sort_any w.heap.size 0 k zs wr hH hsz (by rw [HZL.out]; omega)
          rwa [HZL.out] at this
        have HE : Hid (∀ (n : Nat) (os : Array Obj), (grow (putRow (Value.int .i64) (Sort.ahead wr n) w.heap.size 0 (zs.mergeSort fun x y => decide (x ≤ y)).toArray) os).ownsRow w.heap.size 3 1 (.slice (some ⟨w.heap.size, 0, none⟩) k k) k ((zs.mergeSort fun x y => decide (x ≤ y)).map (Value.int .i64)) ∧ Below w.heap.size w (grow (putRow (Value.int .i64) (Sort.ahead wr n) w.heap.size 0 (zs.mergeSort fun x y => decide (x ≤ y)).toArray) os)) := fun n os => by
          have h := ownsRow_sorted_i (n := n) (os := os) (ss := zs) (ts := zs.mergeSort fun x y => decide (x ≤ y)) (by simp) hbase hgb (by rw [HZL.out]; exact r1) r2 r3
          rw [HZL.out] at h
          exact ⟨h, HB.out.grown (grownBy_sorted_i _) HB.out.size (fun j hj => by cases hj; exact hbase)⟩
        have HSL : Hid ((zs.mergeSort fun x y => decide (x ≤ y)).length = k) := by unfold Hid; rw [List.length_mergeSort, HZL.out]
        clear hrow hbase hgb r1 r2 r3 r4 hH HB
        go_wp2_with fail
        refine HS.out.mono ?_
        rintro e w2 ⟨rfl, n', os, rfl⟩
        have HE2 := hid (HE.out n' os)
        generalize grow (putRow (Value.int .i64) (Sort.ahead wr n') w.heap.size 0 (zs.mergeSort fun x y => decide (x ≤ y)).toArray) os = W2 at *
        generalize (zs.mergeSort fun x y => decide (x ≤ y)) = ts at *
        have HC : Hid (Calls Tryz.prog 163 #[.slice (some ⟨w.heap.size, 0, none⟩) k k] W2 fun e w' => ∃ v', e = .returned v' ∧ w'.ownsRow w.heap.size 3 1 v' (Lib.compact ts).length ((Lib.compact ts).map (Value.int .i64)) ∧ Below w.heap.size W2 w') :=
          compact_own w.heap.size _ ts W2 (by rw [HSL.out]; omega) (by rw [HSL.out]; exact HE2.out.1) HE2.out.2.size
        rw [HMD.out] at HC
        clear HS HE HMD HSL
        go_wp2_with fail
        refine HC.out.mono ?_
        rintro e w3 ⟨v', rfl, hv, hb3⟩
        have HV := hid hv
        have HB3 := hid (HE2.out.2.trans hb3)
        clear hv hb3 HC HE2
        go_wp2_with fail
        go_ret
        exact ⟨v', rfl, HV.out, HB3.out⟩

theorem fz5_iff {n : Nat} {k asked : Int} (hn : n ≤ 65536) : fz5 n k asked = 0 ↔ 1 ≤ k ∧ k ≤ (n / 2 : Nat) ∧ (pnz k.toNat = 1) ∧ 1 ≤ asked ∧ asked ≤ 64 := by
  unfold fz5
  constructor
  · intro h
    split at h
    · rename_i hh
      obtain ⟨h1, h2, h3, h4⟩ := hh
      obtain ⟨j, h5, rfl⟩ := (twb_iff (by omega)).1 h2
      have : 0 < 2 ^ j := Nat.two_pow_pos j
      exact ⟨by omega, by omega, by rw [Int.toNat_natCast]; exact (pnz_one (by omega)).2 ⟨j, by
        rcases Nat.lt_or_ge j 17 with g | g
        · omega
        · have : 2 ^ 17 ≤ 2 ^ j := Nat.pow_le_pow_right (by omega) g
          omega, rfl⟩, h3, h4⟩
    · omega
  · rintro ⟨h1, h2, h3, h4, h5⟩
    obtain ⟨j, _, hj⟩ := (pnz_one (n := k.toNat) (by omega)).1 h3
    rw [if_pos ⟨by omega, (twb_iff (by omega)).2 ⟨j, by omega, by omega⟩, h4, h5⟩]

set_option maxRecDepth 100000 in
set_option maxHeartbeats 1000000 in
theorem mayshow_any (n d b : Nat) (r s k asked : Int) (w : World) (hd : DomAt w d b (n : Int) r s) (hn : n ≤ 65536) (hk1 : -9223372036854775808 ≤ k) (hk2 : k ≤ 9223372036854775807) :
    Calls Tryz.prog 35 #[.pointer (some ⟨d, 0, none⟩), .int .i64 k, .int .i64 asked] w fun e w' => e = .returned (.bool (decide (fz5 n k asked = 0))) ∧ w' = w := by
  have HS := hid (size_any d b (n : Int) r s w hd)
  have q0 : (n : Int) / 2 = ((n / 2 : Nat) : Int) := by omega
  have q1 : (n : Int).tdiv 2 = ((n / 2 : Nat) : Int) := by rw [Int.tdiv_eq_ediv_of_nonneg (by omega)]; omega
  have q2 : IntKind.i64.wrap ((n / 2 : Nat) : Int) = ((n / 2 : Nat) : Int) := by rw [IntKind.wrap_i64]; omega
  have HZ := hid (fz5_iff (k := k) (asked := asked) hn)
  obtain ⟨B, hB⟩ : ∃ B, B = decide (fz5 n k asked = 0) := ⟨_, rfl⟩
  rw [← hB]
  have hh : n / 2 ≤ 32768 := by omega
  generalize hhh : n / 2 = h at *
  by_cases h1 : 1 ≤ k
  · by_cases h2 : k ≤ (h : Int)
    · obtain ⟨kk, rfl⟩ := Int.eq_ofNat_of_zero_le (show 0 ≤ k by omega)
      have hu : IntKind.u64.wrap (kk : Int) = (kk : Int) := by rw [IntKind.wrap_u64]; omega
      have HO := hid (ones_any kk w (by omega))
      rw [Int.toNat_natCast] at HZ
      by_cases h3 : pnz kk = 1
      · rw [h3] at HO
        by_cases h4 : 1 ≤ asked
        · have hBe : B = decide (asked ≤ 64) := by
            rw [hB, Bool.eq_iff_iff, decide_eq_true_eq, decide_eq_true_eq, HZ.out]
            exact ⟨fun g => g.2.2.2.2, fun g => ⟨h1, h2, h3, h4, g⟩⟩
          rw [hBe]
          clear hB hBe HZ h3
          go_enter Tryz.func35, Tryz.ntmps35
          go_wp2_with fail
          refine HS.out.mono ?_
          rintro e w1 ⟨rfl, rfl⟩
          go_wp2_with fail
          refine HO.out.mono ?_
          rintro e w1 ⟨rfl, rfl⟩
          go_wp2_with fail
          go_ret
          exact ⟨rfl, rfl⟩
        · have hBe : B = false := by
            rw [hB, decide_eq_false_iff_not, HZ.out]
            exact fun g => h4 g.2.2.2.1
          rw [hBe]
          clear hB hBe HZ h3
          go_enter Tryz.func35, Tryz.ntmps35
          go_wp2_with fail
          refine HS.out.mono ?_
          rintro e w1 ⟨rfl, rfl⟩
          go_wp2_with fail
          refine HO.out.mono ?_
          rintro e w1 ⟨rfl, rfl⟩
          go_wp2_with fail
          go_ret
          exact ⟨rfl, rfl⟩
      · have hBe : B = false := by
          rw [hB, decide_eq_false_iff_not, HZ.out]
          exact fun g => h3 g.2.2.1
        have h3' : (((pnz kk : Nat) : Int) == 1) = false := by rw [beq_eq_false_iff_ne]; omega
        rw [hBe]
        generalize pnz kk = z at *
        clear hB hBe HZ h3
        go_enter Tryz.func35, Tryz.ntmps35
        go_wp2_with fail
        refine HS.out.mono ?_
        rintro e w1 ⟨rfl, rfl⟩
        go_wp2_with fail
        refine HO.out.mono ?_
        rintro e w1 ⟨rfl, rfl⟩
        go_wp2_with fail
        go_ret
        exact ⟨rfl, rfl⟩
    · have hBe : B = false := by
        rw [hB, decide_eq_false_iff_not, HZ.out]
        exact fun g => h2 g.2.1
      rw [hBe]
      clear hB hBe HZ
      go_enter Tryz.func35, Tryz.ntmps35
      go_wp2_with fail
      refine HS.out.mono ?_
      rintro e w1 ⟨rfl, rfl⟩
      go_wp2_with fail
      go_ret
      exact ⟨rfl, rfl⟩
  · have hBe : B = false := by
      rw [hB, decide_eq_false_iff_not, HZ.out]
      exact fun g => h1 g.1
    rw [hBe]
    clear hB hBe HZ
    go_enter Tryz.func35, Tryz.ntmps35
    go_wp2_with fail
    go_ret
    exact ⟨rfl, rfl⟩

end Go.Proofs.YtfppkjpgihnibaaGreatDoor

namespace Go.Proofs.YtfppkjpgihnibaaGreatDoor
open Go.RowKit

theorem DO.gb {w w' : World} {p b d n c : Nat} {r s : Int} (h : DO w p b d n r s) (e : w.grownBy w' (some c)) (hb : b ≠ c) (hd : d ≠ c) : DO w' p b d n r s :=
  ⟨h.pr, h.h3, h.hm, (World.cell?_of_block (w := w) (a := ⟨b, 0, none⟩) (gb_blk e h.blt hb)).trans h.hp,
    by
      obtain ⟨c0, c1, c2, c3⟩ := h.da
      have hk := gb_blk e h.dlt hd
      exact ⟨(World.cell?_of_block (w := w) (a := ⟨d, 0, none⟩) hk).trans c0, (World.cell?_of_block (w := w) (a := ⟨d, 1, none⟩) hk).trans c1, (World.cell?_of_block (w := w) (a := ⟨d, 2, none⟩) hk).trans c2, (World.cell?_of_block (w := w) (a := ⟨d, 3, none⟩) hk).trans c3⟩,
    h.hk, h.hr0, h.hr1, h.ord, h.hs0, h.hs1, h.hsd⟩
/-- the domain of half the points -/
theorem DO.half {w w' : World} {p b d d' m : Nat} {r s : Int} (h : DO w p b d (2 * m) r s) (e : Below w.heap.size w w') (hd : DomAt w' d' b m (r * r % (p : Int)) (s * s % (p : Int))) : DO w' p b d' m (r * r % (p : Int)) (s * s % (p : Int)) := by
  have C := h.cir.half
  have h1 := emod_bounds (r * r) p h.h3
  have h2 := emod_bounds (s * s) p h.h3
  refine ⟨h.pr, h.h3, h.hm, (e.cell (p := ⟨b, 0, none⟩) h.blt).trans h.hp, hd, ?_, h1.1, h1.2, C.ord, h2.1, h2.2, C.sd⟩
  obtain ⟨k, hk, hm⟩ := h.hk
  cases k with
  | zero => omega
  | succ k => exact ⟨k, by omega, by rw [Nat.pow_succ] at hm; omega⟩

/-- the domains of the rounds, and of the end -/
structure DmL (q b K m : Nat) (r s : Int) (W : World) (ds : List Nat) : Prop where
  len : ds.length = m + 1
  dom : ∀ i, i ≤ m → DO W q b (ds.getD i 0) (2 ^ (K - i)) (sqi q r i) (sqi q s i)
theorem DmL.gb {q b K m : Nat} {r s : Int} {W W' : World} {ds : List Nat} {c : Nat} (h : DmL q b K m r s W ds) (e : W.grownBy W' (some c)) (hb : b ≠ c) (hd : ∀ i, i ≤ m → ds.getD i 0 ≠ c) : DmL q b K m r s W' ds := ⟨h.len, fun i hi => (h.dom i hi).gb e hb (hd i hi)⟩
theorem DmL.below {q b K m : Nat} {r s : Int} {W W' : World} {ds : List Nat} (h : DmL q b K m r s W ds) (e : Below W.heap.size W W') : DmL q b K m r s W' ds := ⟨h.len, fun i hi => (h.dom i hi).step e⟩

theorem getD_app {ds : List Nat} {x i : Nat} (h : i < ds.length) : (ds ++ [x]).getD i 0 = ds.getD i 0 := by simp [List.getD_eq_getElem?_getD, List.getElem?_append_left h]
theorem getD_last {ds : List Nat} {x : Nat} : (ds ++ [x]).getD ds.length 0 = x := by simp [List.getD_eq_getElem?_getD]

set_option maxRecDepth 100000 in
set_option maxHeartbeats 1000000 in
theorem domains_any (q b d K J : Nat) (r s : Int) (w : World) (D : DO w q b d (2 ^ K) r s) (hK : K ≤ 16) (hJ : J + 1 ≤ K) :
    Calls Tryz.prog 40 #[.pointer (some ⟨d, 0, none⟩), .int .i64 ((2 ^ J : Nat) : Int)] w fun e w' =>
      ∃ v ds, e = .returned v ∧ OwnP w.heap.size w' 23 v ds ∧ DmL q b K (J - 2) r s w' ds ∧ ds.getD 0 0 = d ∧ (∀ i, 1 ≤ i → i ≤ J - 2 → w.heap.size ≤ ds.getD i 0) ∧ Below w.heap.size w w' := by
  have HD := hid D
  have hdl := D.dlt
  have HH : Hid (∀ (W : World) (dd i : Nat), i < J - 2 → DO W q b dd (2 ^ (K - i)) (sqi q r i) (sqi q s i) → Calls Tryz.prog 94 #[.pointer (some ⟨dd, 0, none⟩)] W fun e w' => ∃ d' : Nat, e = .returned (.tuple #[.pointer (some ⟨d', 0, none⟩), .nilIface]) ∧ W.heap.size ≤ d' ∧ DO w' q b d' (2 ^ (K - (i + 1))) (sqi q r (i + 1)) (sqi q s (i + 1)) ∧ Below W.heap.size W w') := fun W dd i hi h => by
    have e1 : 2 ^ (K - i) = 2 * 2 ^ (K - (i + 1)) := by rw [show K - i = (K - (i + 1)) + 1 by omega, Nat.pow_succ]; omega
    rw [e1] at h
    have hle : 2 ^ (K - (i + 1)) ≤ 2 ^ 16 := Nat.pow_le_pow_right (by omega) (by omega)
    refine (half_any q b dd (2 ^ (K - (i + 1))) _ _ W h.h3 h.hm h.hp h.da (Nat.two_pow_pos _) (by omega) h.hr0 h.hr1 h.hs0 h.hs1).mono ?_
    rintro e w' ⟨d', rfl, h1, h2, h3⟩
    exact ⟨d', rfl, h1, h.half h3 h2, h3⟩
  have HP0 : Hid (OwnP w.heap.size (w.alloc (.cells #[.pointer (some ⟨d, 0, none⟩)] 23)) 23 (.slice (some ⟨w.heap.size, 0, none⟩) 1 1) [d]) := OwnP.one w _ d
  have HB0 : Hid (Below w.heap.size w (w.alloc (.cells #[.pointer (some ⟨d, 0, none⟩)] 23))) := (Below.refl _ _).alloc (Nat.le_refl _) _
  clear D
  go_enter Tryz.func40, Tryz.ntmps40
  go_wp2_with fail
  generalize w.alloc (.cells #[.pointer (some ⟨d, 0, none⟩)] 23) = W0 at *
  go_loopw [0, 1, 5] (fun dv kv v wr => ∃ (i : Nat) (ds : List Nat) (dd kk : Nat), i ≤ J - 2 ∧ dv = .pointer (some ⟨dd, 0, none⟩) ∧ kv = .int .i64 (kk : Int) ∧ Hid (kk = 2 ^ (J - i)) ∧ Hid (dd = ds.getD i 0) ∧ Hid (OwnP w.heap.size wr 23 v ds ∧ DmL q b K i r s wr ds ∧ ds.getD 0 0 = d ∧ (∀ j, 1 ≤ j → j ≤ i → w.heap.size ≤ ds.getD j 0) ∧ Below w.heap.size w wr)) (fun _ kv _ _ => (intOf kv).toNat)
  case atStart => exact ⟨0, [d], d, 2 ^ J, by omega, rfl, rfl, rfl, rfl, HP0.out, ⟨rfl, fun i hi => by
    have hi0 : i = 0 := by omega
    subst hi0
    exact HD.out.step HB0.out⟩, rfl, fun j h1 h2 => by omega, HB0.out⟩
  case round =>
    obtain ⟨i, ds, dd, kk, hi, rfl, rfl, hkk, hdd, hI⟩ := hrel
    by_cases hlt : i < J - 2
    · have hk4 : (4 : Int) < (kk : Int) := by
        have h1 : 2 ^ 3 ≤ 2 ^ (J - i) := Nat.pow_le_pow_right (by omega) (by omega)
        have h2 := hkk.out
        omega
      obtain ⟨k2, hk2⟩ : ∃ k2, k2 = 2 ^ (J - (i + 1)) := ⟨_, rfl⟩
      have hkk2 : kk = 2 * k2 := by rw [hkk.out, hk2, show J - i = (J - (i + 1)) + 1 by omega, Nat.pow_succ]; omega
      have hkb : kk ≤ 65536 := by
        have h1 : 2 ^ (J - i) ≤ 2 ^ 16 := Nat.pow_le_pow_right (by omega) (by omega)
        have h2 := hkk.out
        omega
      have q1 : (kk : Int).tdiv 2 = (k2 : Int) := by rw [Int.tdiv_eq_ediv_of_nonneg (by omega)]; omega
      have q0 : (kk : Int) / 2 = (k2 : Int) := by omega
      have q2 : IntKind.i64.wrap (k2 : Int) = (k2 : Int) := by rw [IntKind.wrap_i64]; omega
      have hk0 : 0 ≤ (kk : Int) := by omega
      have HX := hid (HH.out wr dd i hlt (by rw [hdd.out]; exact hI.out.2.1.dom i (Nat.le_refl _)))
      have HM : Hid (k2 < kk) := by unfold Hid; omega
      have HK2 := hid hk2
      clear hkk2 hk2 hkk hkb
      go_wp2_with fail
      refine HX.out.mono ?_
      rintro e w1 ⟨d', rfl, h1, h2, h3⟩
      have HH1 := hid h1
      have HH2 := hid h2
      have HH3 := hid h3
      have HO1 := hid (hI.out.1.below h3)
      have hN1 : w.heap.size ≤ w1.heap.size := Nat.le_trans hI.out.2.2.2.2.size h3.size
      have HLE : Hid (ds.length + 1 ≤ 4000000000000) := by unfold Hid; rw [hI.out.2.1.len]; omega
      have HII := hid hI.out
      clear h1 h2 h3 hI HX
      go_wp2_with (at_builtin; refine wpList_ptr1 w1 w.heap.size 90 23 Tryz.underlying90 (by kernel_rfl) rfl _ _ rfl _ ds d' HO1.out rfl rfl HLE.out hN1 ?_)
      intro v2 w2 ho2 hb2 hg2
      have HE : Hid (OwnP w.heap.size w2 23 v2 (ds ++ [d']) ∧ DmL q b K (i + 1) r s w2 (ds ++ [d']) ∧ (ds ++ [d']).getD 0 0 = d ∧ (∀ j, 1 ≤ j → j ≤ i + 1 → w.heap.size ≤ (ds ++ [d']).getD j 0) ∧ Below w.heap.size w w2 ∧ d' = (ds ++ [d']).getD (i + 1) 0) := by
        have hl := HII.out.2.1.len
        have hbb := HII.out.2.2.2.2.trans (HH3.out.mono HII.out.2.2.2.2.size)
        have hg : (ds ++ [d']).getD (i + 1) 0 = d' := by rw [← hl]; exact getD_last
        -- the own row's block is a row of pointers; no domain lies in it
        have hbk : ∀ (dd n : Nat) (rr ss : Int), DO w1 q b dd n rr ss → DO w2 q b dd n rr ss := fun dd n rr ss hdo => by
          obtain ⟨g, cap, hv, _, _, hob, _, _, hat⟩ := HO1.out.form (by omega)
          have h0 := hat 0 (by omega)
          rw [HII.out.2.2.1] at h0
          subst hv
          have hbg : b ≠ g := by
            rintro rfl
            have h1 := hdo.hp
            rw [h0] at h1
            cases h1
          refine hdo.gb hg2 hbg ?_
          rintro rfl
          have h1 := hdo.da.f
          rw [h0] at h1
          injection h1 with h1
          injection h1 with h1
          injection h1 with h1
          injection h1 with h1
          have h2 := HD.out.da.f
          rw [h1, HD.out.hp] at h2
          cases h2
        refine ⟨ho2, ⟨by simp [hl], fun j hj => ?_⟩, ?_, fun j h1 h2 => ?_, hbb.trans hb2, hg.symm⟩
        · rcases Nat.lt_or_ge j (i + 1) with g | g
          · rw [getD_app (by omega)]
            exact hbk _ _ _ _ ((HII.out.2.1.dom j (by omega)).step HH3.out)
          · obtain rfl : j = i + 1 := by omega
            rw [hg]
            exact hbk _ _ _ _ HH2.out
        · rw [getD_app (by omega)]; exact HII.out.2.2.1
        · rcases Nat.lt_or_ge j (i + 1) with g | g
          · rw [getD_app (by omega)]; exact HII.out.2.2.2.1 j h1 (by omega)
          · obtain rfl : j = i + 1 := by omega
            rw [hg]
            exact Nat.le_trans HII.out.2.2.2.2.size HH1.out
      clear ho2 hb2 hg2 HII HH1 HH2 HH3 HO1 HLE
      go_wp2_with fail
      go_roundw
      case rel => exact ⟨i + 1, ds ++ [d'], d', k2, by omega, rfl, by go_num, HK2.out, HE.out.2.2.2.2.2, HE.out.1, HE.out.2.1, HE.out.2.2.1, HE.out.2.2.2.1, HE.out.2.2.2.2.1⟩
      case measure => simp [intOf]; exact HM.out
    · have hk4 : ¬ (4 : Int) < (kk : Int) := by
        have h1 : 2 ^ (J - i) ≤ 2 ^ 2 := Nat.pow_le_pow_right (by omega) (by omega)
        have h2 := hkk.out
        omega
      obtain rfl : i = J - 2 := by omega
      have HE := hid hI.out
      clear hI hkk hdd
      go_wp2_with fail
      go_ret
      exact ⟨_, rfl, ds, HE.out⟩

end Go.Proofs.YtfppkjpgihnibaaGreatDoor

namespace Go.Proofs.YtfppkjpgihnibaaGreatDoor
open Go.RowKit

/-- all of the first n -/
def evc (ok : Nat → Bool) (n : Nat) : Bool := (List.range n).all ok
theorem evc_iff {ok : Nat → Bool} {n : Nat} : evc ok n = true ↔ ∀ k, k < n → ok k = true := by simp [evc]
theorem evc_not {ok : Nat → Bool} {n k : Nat} (hk : k < n) (h : ok k = false) : evc ok n = false := by
  cases he : evc ok n with
  | false => rfl
  | true => rw [evc_iff.1 he k hk] at h; cases h

set_option maxRecDepth 100000 in
theorem notwo_any (n cap : Nat) (a : Option Addr) (w : World) :
    Calls Tryz.prog 182 #[.slice a n cap] w fun e w' => e = .returned (.bool (!((n : Int) == 2))) ∧ w' = w := by
  go_enter Tryz.func182, Tryz.ntmps182
  go_wp2_with fail
  go_ret
  exact ⟨rfl, rfl⟩

set_option maxRecDepth 100000 in
set_option maxHeartbeats 1000000 in
theorem indexp_any (cap : Nat) (a : Option Addr) (rows : List (List Int)) (w : World) (hlen : rows.length ≤ 281474976710656) (hl : LstR w.heap.size w a cap rows) :
    Calls Tryz.prog 192 #[.slice a rows.length cap, .func (.func 182) #[] #[]] w fun e w' => (∃ r : Int, e = .returned (.int .i64 r) ∧ decide (0 ≤ r) = !(evc (fun k => ((rat rows k).length : Int) == 2) rows.length)) ∧ w' = w := by
  have hcf := enters_of Tryz.func182 (by kernel_rfl) (by kernel_rfl)
  have HL := hid hl
  have HE1 : Hid (∀ (k : Nat) (ak : Option Addr) (ck : Nat), Calls Tryz.prog 182 #[.slice ak (rat rows k).length ck] w fun e w' => e = .returned (.bool (!(((rat rows k).length : Int) == 2))) ∧ w' = w) := fun k ak ck => notwo_any _ ck ak w
  obtain ⟨ok, hok⟩ : ∃ ok : Nat → Bool, ok = fun k => ((rat rows k).length : Int) == 2 := ⟨_, rfl⟩
  have HOK : Hid (∀ k, (((rat rows k).length : Int) == 2) = ok k) := fun k => by rw [hok]
  rw [← hok]
  obtain ⟨n, hn⟩ : ∃ n, n = rows.length := ⟨_, rfl⟩
  rw [← hn] at hlen ⊢
  have HN := hid hn
  clear hl hn hok
  go_enter Tryz.func192, Tryz.ntmps192
  go_wp2_with fail
  go_loop [8] (fun iv => ∃ k : Nat, k ≤ n ∧ iv = .int .i64 k ∧ Hid (∀ j, j < k → ok j = true)) (fun iv => n - (intOf iv).toNat)
  case atStart => exact ⟨0, by omega, rfl, fun j hj => by omega⟩
  case round =>
    obtain ⟨k, hk, rfl, hI⟩ := hrel
    by_cases hlt : k < n
    · have hlt2 : (k : Int) < (n : Int) := by omega
      have hks : IntKind.i64.wrap ((k : Int) + 1) = (k : Int) + 1 := by rw [IntKind.wrap_i64]; omega
      obtain ⟨b0, o0, ak, ck, rfl, _, hc, _⟩ := HL.out.row k (by rw [← HN.out]; exact hlt)
      have HX := HE1.out k ak ck
      rw [HOK.out k] at HX
      generalize (rat rows k).length = L at *
      cases hb : ok k with
      | true =>
        rw [hb] at HX
        have HXX := hid HX
        have HE : Hid (∀ j, j < k + 1 → ok j = true) := fun j hj => by
          by_cases e : j = k
          · rw [e]; exact hb
          · exact hI.out j (by omega)
        clear hI HX hb
        go_wp2_with fail
        refine HXX.out.mono ?_
        rintro e w1 ⟨rfl, rfl⟩
        go_wp2_with fail
        go_round
        case rel => exact ⟨k + 1, by omega, by go_num, HE⟩
        case measure => simp [intOf]; omega
      | false =>
        rw [hb] at HX
        have HXX := hid HX
        have HE := hid (evc_not hlt hb)
        clear hI HX hb
        go_wp2_with fail
        refine HXX.out.mono ?_
        rintro e w1 ⟨rfl, rfl⟩
        go_wp2_with fail
        go_ret
        refine ⟨⟨(k : Int), rfl, ?_⟩, rfl⟩
        rw [HE.out]
        simp
    · obtain rfl : k = n := by omega
      have hlt2 : ¬ (k : Int) < (k : Int) := by omega
      have HE := hid (evc_iff.2 hI.out)
      clear hI
      go_wp2_with fail
      go_ret
      refine ⟨⟨-1, rfl, ?_⟩, rfl⟩
      rw [HE.out]
      simp

set_option maxRecDepth 100000 in
theorem containsp_any (cap : Nat) (a : Option Addr) (rows : List (List Int)) (w : World) (hlen : rows.length ≤ 281474976710656) (hl : LstR w.heap.size w a cap rows) :
    Calls Tryz.prog 126 #[.slice a rows.length cap, .func (.func 182) #[] #[]] w fun e w' => e = .returned (.bool (!(evc (fun k => ((rat rows k).length : Int) == 2) rows.length))) ∧ w' = w := by
  have HI := hid (indexp_any cap a rows w hlen hl)
  clear hl
  generalize evc (fun k => ((rat rows k).length : Int) == 2) rows.length = E at *
  generalize rows.length = n at *
  go_enter Tryz.func126, Tryz.ntmps126
  go_wp2_with fail
  refine HI.out.mono ?_
  rintro e w1 ⟨⟨r, rfl, hr⟩, rfl⟩
  have HRR := hid hr
  clear hr HI
  go_wp2_with fail
  go_ret
  exact ⟨by rw [← HRR.out]; rfl, rfl⟩

set_option maxRecDepth 100000 in
set_option maxHeartbeats 1000000 in
theorem arepairs_any (cp cr cl : Nat) (ap ar al : Option Addr) (vn : Value) (ps : List Int) (rows : List (List Int)) (pl : List Int) (w : World) (hps : ps.length ≤ 281474976710656) (hrl : rows.length ≤ 281474976710656) (hp : RowB w.heap.size w ap ps) (hr : LstR w.heap.size w ar cr rows) (hl : RowB w.heap.size w al pl) :
    Calls Tryz.prog 109 #[.agg #[.slice ap ps.length cp, .slice ar rows.length cr, vn], .slice al pl.length cl] w fun e w' => e = .returned (.bool (decide (ps = pl) && evc (fun k => ((rat rows k).length : Int) == 2) rows.length)) ∧ Below w.heap.size w w' := by
  obtain ⟨W0, hW0⟩ : ∃ W0, W0 = w.alloc (.cells #[.slice ap ps.length cp, .slice ar rows.length cr, vn] 107) := ⟨_, rfl⟩
  have hb0 : Below w.heap.size w W0 := by rw [hW0]; exact (Below.refl _ _).alloc (Nat.le_refl _) _
  have hO : W0.heap[w.heap.size]? = some (.cells #[.slice ap ps.length cp, .slice ar rows.length cr, vn] 107 (0, 0)) := by rw [hW0]; exact heap_alloc_new w _
  have HEQ := hid (equal_any cp cl ap al ps pl W0 hps ((hp.below hb0).mono hb0.size) ((hl.below hb0).mono hb0.size))
  have HCO : Hid (∀ W, Below W0.heap.size W0 W → Calls Tryz.prog 126 #[.slice ar rows.length cr, .func (.func 182) #[] #[]] W fun e w' => e = .returned (.bool (!(evc (fun k => ((rat rows k).length : Int) == 2) rows.length))) ∧ w' = W) := fun W hB => by
    have hb := hb0.trans (hB.mono hb0.size)
    exact containsp_any cr ar rows W hrl ((hr.below hb).mono hb.size)
  have HB0 := hid hb0
  have c0 := thr0 hO
  have HC1 : Hid (∀ W, Below W0.heap.size W0 W → W.cell? ⟨w.heap.size, 1, none⟩ = some (.slice ar rows.length cr)) := fun W hB => (hB.cell (p := ⟨w.heap.size, 1, none⟩) (Array.getElem?_eq_some_iff.1 hO).1).trans (thr1 hO)
  generalize evc (fun k => ((rat rows k).length : Int) == 2) rows.length = E at *
  clear hp hr hl hb0 hO
  cases hb : decide (ps = pl) with
  | true =>
    rw [hb] at HEQ
    clear hb
    generalize ps.length = n1 at *
    generalize pl.length = n2 at *
    generalize rows.length = n3 at *
    go_enter Tryz.func109, Tryz.ntmps109
    go_wp2_with fail
    rw [← hW0]
    clear hW0
    go_wp2_with fail
    refine HEQ.out.mono ?_
    rintro e w1 ⟨rfl, hb1⟩
    have c1 := HC1.out w1 hb1
    have HX := hid (HCO.out w1 hb1)
    have HB1 := hid (HB0.out.trans (hb1.mono HB0.out.size))
    clear hb1 HCO HC1 HEQ
    go_wp2_with fail
    refine HX.out.mono ?_
    rintro e w2 ⟨rfl, rfl⟩
    go_wp2_with fail
    go_ret
    exact ⟨by simp, HB1.out⟩
  | false =>
    rw [hb] at HEQ
    clear hb
    generalize ps.length = n1 at *
    generalize pl.length = n2 at *
    generalize rows.length = n3 at *
    go_enter Tryz.func109, Tryz.ntmps109
    go_wp2_with fail
    rw [← hW0]
    clear hW0
    go_wp2_with fail
    refine HEQ.out.mono ?_
    rintro e w1 ⟨rfl, hb1⟩
    have HB1 := hid (HB0.out.trans (hb1.mono HB0.out.size))
    clear hb1 HCO HC1 HEQ
    go_wp2_with fail
    go_ret
    exact ⟨by simp, HB1.out⟩

set_option maxRecDepth 100000 in
set_option maxHeartbeats 1000000 in
/-- slices.IndexFunc of numbers, by any function that leaves all that was there -/
theorem indexg_any (F cap : Nat) (caps : Array Value) (a : Option Addr) (l : List Int) (ok : Nat → Bool) (w : World) (hlen : l.length ≤ 281474976710656) (hl : RowB w.heap.size w a l)
    (hcf : ∀ (args : Array Value) (w1 : World), (callFunc F args).run Tryz.prog w1 = .ok (.enter F args) w1)
    (HC : ∀ (W : World) (k : Nat), Below w.heap.size w W → k < l.length → Calls Tryz.prog F (#[.int .i64 (zat l k)] ++ caps) W fun e w' => e = .returned (.bool (!(ok k))) ∧ Below W.heap.size W w') :
    Calls Tryz.prog 188 #[.slice a l.length cap, .func (.func F) #[] caps] w fun e w' => (∃ r : Int, e = .returned (.int .i64 r) ∧ decide (0 ≤ r) = !(evc ok l.length)) ∧ Below w.heap.size w w' := by
  have HL := hid hl
  have HE1 := hid HC
  obtain ⟨n, hn⟩ : ∃ n, n = l.length := ⟨_, rfl⟩
  rw [← hn] at hlen ⊢
  have HN := hid hn
  clear hl HC hn
  go_enter Tryz.func188, Tryz.ntmps188
  go_wp2_with fail
  go_loopw [8] (fun iv wr => ∃ k : Nat, k ≤ n ∧ iv = .int .i64 k ∧ Hid ((∀ j, j < k → ok j = true) ∧ Below w.heap.size w wr)) (fun iv _ => n - (intOf iv).toNat)
  case atStart => exact ⟨0, by omega, rfl, fun j hj => by omega, Below.refl _ _⟩
  case round =>
    obtain ⟨k, hk, rfl, hI⟩ := hrel
    by_cases hlt : k < n
    · have hlt2 : (k : Int) < (n : Int) := by omega
      have hks : IntKind.i64.wrap ((k : Int) + 1) = (k : Int) + 1 := by rw [IntKind.wrap_i64]; omega
      obtain ⟨b0, o0, rfl, hb0, hc0⟩ := HL.out k (by rw [← HN.out]; exact hlt)
      have hc := (hI.out.2.cell (p := ⟨b0, o0 + k, none⟩) hb0).trans hc0
      have HX := HE1.out wr k hI.out.2 (by rw [← HN.out]; exact hlt)
      have HBI := hid hI.out.2
      generalize zat l k = x at *
      cases hb : ok k with
      | true =>
        rw [hb] at HX
        have HXX := hid HX
        have HE : Hid (∀ j, j < k + 1 → ok j = true) := fun j hj => by
          by_cases e : j = k
          · rw [e]; exact hb
          · exact hI.out.1 j (by omega)
        clear hI HX hb hc0
        go_wp2_with fail
        refine HXX.out.mono ?_
        rintro e w1 ⟨rfl, hb1⟩
        have HB1 := hid (HBI.out.trans (hb1.mono HBI.out.size))
        clear hb1
        go_wp2_with fail
        go_roundw
        case rel => exact ⟨k + 1, by omega, by go_num, HE, HB1.out⟩
        case measure => simp [intOf]; omega
      | false =>
        rw [hb] at HX
        have HXX := hid HX
        have HE := hid (evc_not hlt hb)
        clear hI HX hb hc0
        go_wp2_with fail
        refine HXX.out.mono ?_
        rintro e w1 ⟨rfl, hb1⟩
        have HB1 := hid (HBI.out.trans (hb1.mono HBI.out.size))
        clear hb1
        go_wp2_with fail
        go_ret
        refine ⟨⟨(k : Int), rfl, ?_⟩, HB1.out⟩
        rw [HE.out]
        simp
    · obtain rfl : k = n := by omega
      have hlt2 : ¬ (k : Int) < (k : Int) := by omega
      have HE := hid (evc_iff.2 hI.out.1)
      have HBI := hid hI.out.2
      clear hI
      go_wp2_with fail
      go_ret
      refine ⟨⟨-1, rfl, ?_⟩, HBI.out⟩
      rw [HE.out]
      simp

set_option maxRecDepth 100000 in
theorem containsg_any (F cap : Nat) (caps : Array Value) (a : Option Addr) (l : List Int) (ok : Nat → Bool) (w : World) (hlen : l.length ≤ 281474976710656) (hl : RowB w.heap.size w a l)
    (hcf : ∀ (args : Array Value) (w1 : World), (callFunc F args).run Tryz.prog w1 = .ok (.enter F args) w1)
    (HC : ∀ (W : World) (k : Nat), Below w.heap.size w W → k < l.length → Calls Tryz.prog F (#[.int .i64 (zat l k)] ++ caps) W fun e w' => e = .returned (.bool (!(ok k))) ∧ Below W.heap.size W w') :
    Calls Tryz.prog 117 #[.slice a l.length cap, .func (.func F) #[] caps] w fun e w' => e = .returned (.bool (!(evc ok l.length))) ∧ Below w.heap.size w w' := by
  have HI := hid (indexg_any F cap caps a l ok w hlen hl hcf HC)
  clear hl hcf HC
  generalize evc ok l.length = E at *
  generalize l.length = n at *
  go_enter Tryz.func117, Tryz.ntmps117
  go_wp2_with fail
  refine HI.out.mono ?_
  rintro e w1 ⟨⟨r, rfl, hr⟩, hb⟩
  have HRR := hid hr
  have HB := hid hb
  clear hr HI hb
  go_wp2_with fail
  go_ret
  exact ⟨by rw [← HRR.out]; rfl, HB.out⟩

end Go.Proofs.YtfppkjpgihnibaaGreatDoor

namespace Go.Proofs.YtfppkjpgihnibaaGreatDoor
open Go.RowKit

theorem dig_pld {q : Nat} (h3 : 3 ≤ q) (h4 : q ≤ 2147483647) (n : Nat) {D : List Int} (h : Dig D) : ∀ k, Dig (pld q n k D)
  | 0 => h
  | _ + 1 => dig_digl h3 h4 _ _

set_option maxRecDepth 100000 in
set_option maxHeartbeats 1000000 in
theorem drawplaces_any (N0 q n c d b H a : Nat) (r s : Int) (D : List Int) (w : World) (h3 : 3 ≤ q) (h4 : q ≤ 2147483647) (hP : PCh N0 q n w c D) (hD : Dig D) (hdm : ∀ W, Below N0 w W → DomAt W d b ((2 * H : Nat) : Int) r s) (hH1 : 1 ≤ H) (hH2 : H ≤ 65536) (ha : a ≤ 1000) :
    Calls Tryz.prog 57 #[.pointer (some ⟨c, 0, none⟩), .pointer (some ⟨d, 0, none⟩), .int .i64 (a : Int)] w fun e w' =>
      e = .returned (.slice (some ⟨w.heap.size, 0, none⟩) a a) ∧ ArrI w' w.heap.size 3 a (plz q n H D) ∧ PCh N0 q n w' c (pld q n a D) ∧ w.grownBy w' (some c) := by
  have hcl := hP.lt
  have hcg := hP.ge
  have HP := hid hP
  have HDD := hid hD
  obtain ⟨NN, hNN⟩ : ∃ NN, NN = 2 * H := ⟨_, rfl⟩
  have HSZ : Hid (∀ W, w.grownBy W (some c) → Calls Tryz.prog 36 #[.pointer (some ⟨d, 0, none⟩)] W fun e w' => e = .returned (.int .i64 (NN : Int)) ∧ w' = W) := fun W hg => by
    have := size_any d b _ r s W (hdm W (gb_to hg hcg (by omega)))
    rwa [← hNN] at this
  have q0 : (NN : Int) / 2 = (H : Int) := by omega
  have q1 : (NN : Int).tdiv 2 = (H : Int) := by rw [hNN]; rw [Int.tdiv_eq_ediv_of_nonneg (by omega)]; omega
  have q2 : IntKind.i64.wrap (H : Int) = (H : Int) := by rw [IntKind.wrap_i64]; omega
  have q3 : 0 ≤ (NN : Int) := by omega
  obtain ⟨G, hG⟩ : ∃ G : Nat → Int, G = plz q n H D := ⟨_, rfl⟩
  rw [← hG]
  have HPL : Hid (∀ (W : World) (k : Nat), PCh N0 q n W c (pld q n k D) → Calls Tryz.prog 108 #[.pointer (some ⟨c, 0, none⟩), .int .i64 (H : Int)] W fun e w' => e = .returned (.int .i64 (G k)) ∧ PCh N0 q n w' c (pld q n (k + 1) D) ∧ W.grownBy w' (some c)) := fun W k h => by
    have := cplace_any N0 q n c (H : Int) _ W h (dig_pld h3 h4 n hD k) (by omega) (by omega)
    rw [hG]
    exact this
  have hmk2 := fun w => run_make_row' (P := Tryz.prog) 22 3 (.int .i64 0) 8 Tryz.underlying22 Tryz.infoInt rfl .i64 .i64 a (by omega) (by omega) w
  clear hP hD hdm hNN hG
  go_enter Tryz.func57, Tryz.ntmps57
  go_wp2_with fail
  go_loopw [13] (fun iv wr => ∃ k : Nat, k ≤ a ∧ iv = .int .i64 k ∧ Hid (ArrI wr w.heap.size 3 a (fll G (fun _ => 0) k) ∧ PCh N0 q n wr c (pld q n k D) ∧ w.grownBy wr (some c))) (fun iv _ => a - (intOf iv).toNat)
  case atStart =>
    have hb := (Below.refl w.heap.size w).alloc (Nat.le_refl _) (.cells (madeCells #[.int .i64 0] a) 3)
    exact ⟨0, by omega, rfl, by rw [fll_zero]; exact World.rowIs_made _ _ _ _, HP.out.below hb, gb_below hb⟩
  case round =>
    obtain ⟨k, hk, rfl, hI⟩ := hrel
    by_cases hlt : k < a
    · have hlt2 : (k : Int) < (a : Int) := by omega
      have hks : IntKind.i64.wrap ((k : Int) + 1) = (k : Int) + 1 := by rw [IntKind.wrap_i64]; omega
      have HX := hid (HSZ.out wr hI.out.2.2)
      have HY := hid (HPL.out wr k hI.out.2.1)
      go_wp2_with fail
      refine HX.out.mono ?_
      rintro e w1 ⟨rfl, rfl⟩
      go_wp2_with fail
      refine HY.out.mono ?_
      rintro e w2 ⟨rfl, hp2, hg2⟩
      have hA2 : ArrI w2 w.heap.size 3 a (fll G (fun _ => 0) k) := hI.out.1.block (gb_blk hg2 hI.out.1.lt (by omega))
      have HE : Hid (ArrI (w2.setCell ⟨w.heap.size, k, none⟩ (.int .i64 (G k))) w.heap.size 3 a (fll G (fun _ => 0) (k + 1)) ∧ PCh N0 q n (w2.setCell ⟨w.heap.size, k, none⟩ (.int .i64 (G k))) c (pld q n (k + 1) D) ∧ w.grownBy (w2.setCell ⟨w.heap.size, k, none⟩ (.int .i64 (G k))) (some c)) := by
        have hgg := gb_far (gb_trans hI.out.2.2 hg2) (Nat.le_refl _) k (.int .i64 (G k))
        have hoth : ∀ x, x ≠ w.heap.size → (w2.setCell ⟨w.heap.size, k, none⟩ (.int .i64 (G k))).heap[x]? = w2.heap[x]? := fun x hx => Below.heap_setCell _ _ _ _ (by show x ≠ w.heap.size; exact hx)
        exact ⟨hA2.next, hp2.blocks (hoth _ (by omega)) (fun x hx => hoth x (by omega)), hgg⟩
      have c1 := hA2.cell hlt
      have y1 := hA2.frozen k
      clear hA2 hp2 hg2 hI HX HY
      generalize G k = y at *
      generalize fll G (fun _ => 0) k k = y0 at *
      go_wp2_with fail
      go_roundw
      case rel => exact ⟨k + 1, by omega, by go_num, HE.out⟩
      case measure => simp [intOf]; omega
    · obtain rfl : k = a := by omega
      have hlt2 : ¬ (k : Int) < (k : Int) := by omega
      have HE : Hid (ArrI wr w.heap.size 3 k G ∧ PCh N0 q n wr c (pld q n k D) ∧ w.grownBy wr (some c)) := ⟨hI.out.1.congr (fun j hj => fll_all hj), hI.out.2⟩
      clear hI
      go_wp2_with fail
      go_ret
      exact ⟨rfl, HE.out⟩

end Go.Proofs.YtfppkjpgihnibaaGreatDoor

namespace Go.Proofs.YtfppkjpgihnibaaGreatDoor
open Go.RowKit

theorem fx_asc {ps : List Int} {x : Int} {k : Nat} (h : Asc ps) (hk : k < ps.length) (hz : zat ps k = x) : fx ps x = k := by
  refine fx_eq hk hz fun j hj => ?_
  have := List.pairwise_iff_getElem.1 h j k (by omega) hk hj
  rw [zat, List.getElem?_eq_getElem hk] at hz
  rw [zat, List.getElem?_eq_getElem (by omega)]
  simp at hz ⊢
  omega

/-- slices.BinarySearch of what is there -/
theorem search_in (ap : Option Addr) (cap : Nat) (ps : List Int) (x : Int) (w : World) (h : Asc ps) (hpl : ps.length ≤ 281474976710656) (hp : Lst w.heap.size w ap cap ps) (hm : x ∈ ps) :
    Calls Tryz.prog 112 #[.slice ap ps.length cap, .int .i64 x] w fun e w' => e = .returned (.tuple #[.int .i64 (fx ps x : Int), .bool true]) ∧ Below w.heap.size w w' := by
  refine (search_asc ap cap ps x w h hpl hp).mono ?_
  have hc : ps.contains x = true := by simpa using hm
  rintro e w' ⟨⟨k, rfl, hk⟩, hb⟩
  obtain ⟨h1, h2⟩ := hk hc
  rw [fx_asc h h1 h2, hc]
  exact ⟨rfl, hb⟩
theorem fx_in {ps : List Int} {x : Int} (h : Asc ps) (hm : x ∈ ps) : fx ps x < ps.length ∧ zat ps (fx ps x) = x := by
  obtain ⟨j, hj, hz⟩ := mem_zat hm
  rw [fx_asc h hj hz]
  exact ⟨hj, hz⟩

set_option maxRecDepth 100000 in
set_option maxHeartbeats 2000000 in
/-- what a word has where it is opened -/
theorem known1_any (Bo Br N cp cr place : Nat) (ap ar : Option Addr) (ps : List Int) (rows : List (List Int)) (w : World) (h0 : w.cell? ⟨Bo, 0, none⟩ = some (.slice ap ps.length cp)) (h1 : w.cell? ⟨Bo, 1, none⟩ = some (.slice ar rows.length cr)) (h2 : w.cell? ⟨Br, 0, none⟩ = some (.int .i64 (N : Int)))
    (hasc : Asc ps) (hpl : ps.length ≤ 281474976710656) (hp : Lst w.heap.size w ap cp ps) (hr : LstR w.heap.size w ar cr rows) (hrl : rows.length = ps.length) (htwo : ∀ k, k < rows.length → (rat rows k).length = 2) (hN : 1 ≤ N) (hN2 : N ≤ 65536) (hpc : place < 2 * N) (hm : ((place % N : Nat) : Int) ∈ ps) :
    Calls Tryz.prog 111 #[.int .i64 (place : Int), .pointer (some ⟨Bo, 0, none⟩), .pointer (some ⟨Br, 0, none⟩)] w fun e w' => e = .returned (.int .i64 (zat (rat rows (fx ps ((place % N : Nat) : Int))) (place / N))) ∧ Below w.heap.size w w' := by
  have hmx : Tryz.prog.follows .mixedOrders = true := by kernel_rfl
  obtain ⟨t, ht⟩ : ∃ t, t = place % N := ⟨_, rfl⟩
  obtain ⟨u, hu⟩ : ∃ u, u = place / N := ⟨_, rfl⟩
  have hu2 : u < 2 := by rw [hu]; exact Nat.div_lt_of_lt_mul (by rw [Nat.mul_comm]; exact hpc)
  rw [← ht] at hm ⊢
  rw [← hu]
  have e1 : (place : Int).tmod (N : Int) = (t : Int) := by rw [Int.tmod_eq_emod_of_nonneg (by omega), ht]; exact (Int.natCast_emod _ _).symm
  have e2 : (place : Int).tdiv (N : Int) = (u : Int) := by rw [Int.tdiv_eq_ediv_of_nonneg (by omega), hu]; exact (Int.natCast_ediv _ _).symm
  have e3 : IntKind.i64.wrap (t : Int) = (t : Int) := by
    have := Nat.mod_lt place (show 0 < N by omega)
    rw [IntKind.wrap_i64]; omega
  have e4 : IntKind.i64.wrap (u : Int) = (u : Int) := by rw [IntKind.wrap_i64]; omega
  have hN0 : ¬ (N : Int) = 0 := by omega
  have hNz : ((N : Int) == 0) = false := by rw [beq_eq_false_iff_ne]; omega
  obtain ⟨f1, f2⟩ := fx_in hasc hm
  obtain ⟨K, hK⟩ : ∃ K, K = fx ps (t : Int) := ⟨_, rfl⟩
  rw [← hK] at f1 ⊢
  have hKr : K < rows.length := by omega
  have HS : Hid (∀ W, Below w.heap.size w W → Calls Tryz.prog 112 #[.slice ap ps.length cp, .int .i64 (t : Int)] W fun e w' => e = .returned (.tuple #[.int .i64 (K : Int), .bool true]) ∧ Below w.heap.size w w') := fun W hb => by
    refine (search_in ap cp ps (t : Int) W hasc hpl ((hp.below hb).mono hb.size) hm).mono ?_
    rintro e w' ⟨rfl, h⟩
    rw [hK]
    exact ⟨rfl, hb.trans (h.mono hb.size)⟩
  obtain ⟨b0, o0, ak, ck, rfl, hb0, hc0, hlk⟩ := hr.row K hKr
  have htw := htwo K hKr
  obtain ⟨bk, ok, rfl, hbk, hy⟩ := hlk.row u (by omega)
  rw [htw] at hc0
  obtain ⟨y, hyy⟩ : ∃ y, y = zat (rat rows K) u := ⟨_, rfl⟩
  rw [← hyy] at hy ⊢
  have HK : Hid (∀ W, Below w.heap.size w W → W.cell? ⟨Bo, 0, none⟩ = some (.slice ap ps.length cp) ∧ W.cell? ⟨Bo, 1, none⟩ = some (.slice (some ⟨b0, o0, none⟩) rows.length cr) ∧ W.cell? ⟨Br, 0, none⟩ = some (.int .i64 (N : Int)) ∧ W.cell? ⟨b0, o0 + K, none⟩ = some (.slice (some ⟨bk, ok, none⟩) 2 ck) ∧ W.cell? ⟨bk, ok + u, none⟩ = some (.int .i64 y)) := fun W hb =>
    ⟨(hb.cell (p := ⟨Bo, 0, none⟩) (heap_lt h0)).trans h0, (hb.cell (p := ⟨Bo, 1, none⟩) (heap_lt h0)).trans h1, (hb.cell (p := ⟨Br, 0, none⟩) (heap_lt h2)).trans h2, (hb.cell (p := ⟨b0, o0 + K, none⟩) hb0).trans hc0, (hb.cell (p := ⟨bk, ok + u, none⟩) hbk).trans hy⟩
  have hu3 : (u : Int) < 2 := by omega
  have hK3 : (K : Int) < (rows.length : Int) := by omega
  clear h1 h2 hasc hp hr htwo hm ht hu f2 hK hc0 hlk hy hyy htw hb0 hbk hrl hpc f1 hKr hu2
  generalize ps.length = n1 at *
  generalize rows.length = n2 at *
  generalize (place : Int) = px at *
  clear hN hN2
  generalize (N : Int) = nx at *
  have hdd : Below w.heap.size w w.drew := (Below.refl _ _).drew
  have hd0 : Below w.heap.size w w := Below.refl _ _
  go_enter Tryz.func111, Tryz.ntmps111
  go_wp2_with fail
  go_region_held3 (fun W => W.cell? ⟨Bo, 0, none⟩ = some (.slice ap n1 cp) ∧ W.cell? ⟨Bo, 1, none⟩ = some (.slice (some ⟨b0, o0, none⟩) n2 cr) ∧ W.cell? ⟨Br, 0, none⟩ = some (.int .i64 nx) ∧ W.cell? ⟨b0, o0 + K, none⟩ = some (.slice (some ⟨bk, ok, none⟩) 2 ck) ∧ W.cell? ⟨bk, ok + u, none⟩ = some (.int .i64 y)) (exact HK.out _ (by assumption))
    (first
      | (go_at_call 112; refine (HS.out _ (by assumption)).mono ?_; rintro e w' ⟨rfl, hb'⟩))
  obtain ⟨x0, x1, x2, x3, x4⟩ := HK.out _ hb'
  have HB := hid hb'
  clear HS HK hdd hd0
  go_wp2_with fail
  go_quiet (fail)
  go_wp2_with fail
  go_ret
  exact ⟨rfl, below_drewN HB.out _⟩

set_option maxRecDepth 100000 in
set_option maxHeartbeats 2000000 in
/-- what a word is in the end -/
theorem known2_any (Be Bl q b d M cl place : Nat) (r s : Int) (al : Option Addr) (last : List Int) (w : World) (h0 : w.cell? ⟨Be, 0, none⟩ = some (.pointer (some ⟨d, 0, none⟩))) (h1 : w.cell? ⟨Bl, 0, none⟩ = some (.slice al last.length cl)) (D : DO w q b d (2 ^ M) r s) (hM : M ≤ 16) (hln : last.length ≤ 281474976710656) (hfl : Fits last) (hl : RowB w.heap.size w al last) (hpc : place < 2 ^ M) :
    Calls Tryz.prog 114 #[.int .i64 (place : Int), .pointer (some ⟨Be, 0, none⟩), .pointer (some ⟨Bl, 0, none⟩)] w fun e w' => e = .returned (.int .i64 (evz q last (Dom.pt q s r place))) ∧ Below w.heap.size w w' := by
  have hmx : Tryz.prog.follows .mixedOrders = true := by kernel_rfl
  have h3 := D.h3
  have h4 := D.hm
  have HF : Hid (∀ W, Below w.heap.size w W → Calls Tryz.prog 59 #[.pointer (some ⟨d, 0, none⟩)] W fun e w' => e = .returned (.pointer (some ⟨b, 0, none⟩)) ∧ Below w.heap.size w w') := fun W hb => by
    refine (dfield_any d b _ r s W (D.step hb).da).mono ?_
    rintro e w' ⟨rfl, rfl⟩
    exact ⟨rfl, hb⟩
  have HP : Hid (∀ W, Below w.heap.size w W → Calls Tryz.prog 116 #[.pointer (some ⟨d, 0, none⟩), .int .i64 (place : Int)] W fun e w' => e = .returned (.int .i64 (Dom.pt q s r place)) ∧ Below w.heap.size w w') := fun W hb => by
    have D2 := D.step hb
    refine (point_any q b d M r s (place : Int) W D2.pr D2.h3 D2.hm D2.hp D2.da hM D2.hr0 D2.hr1 D2.hs0 D2.hs1).mono ?_
    rintro e w' ⟨rfl, rfl⟩
    rw [← Int.natCast_emod, Nat.mod_eq_of_lt hpc, Int.toNat_natCast]
    exact ⟨rfl, hb.drew⟩
  have hpb : 0 ≤ Dom.pt q s r place ∧ Dom.pt q s r place < q := emod_bounds (s * r ^ place) q h3
  obtain ⟨x, hx⟩ : ∃ x, x = Dom.pt q s r place := ⟨_, rfl⟩
  rw [← hx] at HP hpb ⊢
  have HE : Hid (∀ W, Below w.heap.size w W → Calls Tryz.prog 115 #[.pointer (some ⟨b, 0, none⟩), .slice al last.length cl, .int .i64 x] W fun e w' => e = .returned (.int .i64 (evz q last x)) ∧ Below w.heap.size w w') := fun W hb => by
    refine (eval_any q b cl (· < w.heap.size) al last x W h3 h4 (D.step hb).hp hln hfl (by omega) (by omega) (hl.below hb)).mono ?_
    rintro e w' ⟨rfl, nn, rfl⟩
    exact ⟨rfl, below_drewN hb _⟩
  have HK : Hid (∀ W, Below w.heap.size w W → W.cell? ⟨Be, 0, none⟩ = some (.pointer (some ⟨d, 0, none⟩)) ∧ W.cell? ⟨Bl, 0, none⟩ = some (.slice al last.length cl)) := fun W hb =>
    ⟨(hb.cell (p := ⟨Be, 0, none⟩) (heap_lt h0)).trans h0, (hb.cell (p := ⟨Bl, 0, none⟩) (heap_lt h1)).trans h1⟩
  have hdd : Below w.heap.size w w.drew := (Below.refl _ _).drew
  have hd0 : Below w.heap.size w w := Below.refl _ _
  clear D hx hl hfl hpb hpc h0 h1
  generalize evz q last x = y at *
  generalize last.length = nl at *
  go_enter Tryz.func114, Tryz.ntmps114
  go_wp2_with fail
  go_region_held3 (fun W => W.cell? ⟨Be, 0, none⟩ = some (.pointer (some ⟨d, 0, none⟩)) ∧ W.cell? ⟨Bl, 0, none⟩ = some (.slice al nl cl)) (exact HK.out _ (by assumption))
    (first
      | (go_at_call 59; refine (HF.out _ (by assumption)).mono ?_; rintro e w' ⟨rfl, hb'⟩)
      | (go_at_call 116; refine (HP.out _ (by assumption)).mono ?_; rintro e w' ⟨rfl, hb'⟩)
      | (go_at_call 115; refine (HE.out _ (by assumption)).mono ?_; rintro e w' ⟨rfl, hb'⟩))
  all_goals (go_wp2_with fail; go_ret; exact ⟨rfl, by assumption⟩)

end Go.Proofs.YtfppkjpgihnibaaGreatDoor

namespace Go.Proofs.YtfppkjpgihnibaaGreatDoor
open Go.RowKit

/-- a function that tells what a word has at some places -/
def KnW (W : World) (v : Value) (P : Nat → Prop) (f : Nat → Int) : Prop := ∃ F c1 c2, v = .func (.func F) #[] #[.pointer (some ⟨c1, 0, none⟩), .pointer (some ⟨c2, 0, none⟩)] ∧ (∀ (args : Array Value) (w1 : World), (callFunc F args).run Tryz.prog w1 = .ok (.enter F args) w1) ∧
  ∀ (W' : World) (place : Nat), Below W.heap.size W W' → P place → Calls Tryz.prog F #[.int .i64 (place : Int), .pointer (some ⟨c1, 0, none⟩), .pointer (some ⟨c2, 0, none⟩)] W' fun e w' => e = .returned (.int .i64 (f place)) ∧ Below W'.heap.size W' w'
theorem KnW.step {W W' : World} {v : Value} {P : Nat → Prop} {f : Nat → Int} (h : KnW W v P f) (e : Below W.heap.size W W') : KnW W' v P f := by
  obtain ⟨F, c1, c2, h1, h2, h3⟩ := h
  exact ⟨F, c1, c2, h1, h2, fun W2 place hb hp => h3 W2 place (e.trans (hb.mono e.size)) hp⟩

set_option maxRecDepth 100000 in
set_option maxHeartbeats 2000000 in
theorem foldone_any (q b d M H Bd Bn Bh Br Bx at' : Nat) (r s c : Int) (v1 v2 : Value) (P1 P2 : Nat → Prop) (f g : Nat → Int) (w : World) (h0 : w.cell? ⟨Bd, 0, none⟩ = some (.pointer (some ⟨d, 0, none⟩))) (h1 : w.cell? ⟨Bn, 0, none⟩ = some v1) (h2 : w.cell? ⟨Bh, 0, none⟩ = some (.int .i64 (H : Int))) (hr : w.cell? ⟨Br, 0, none⟩ = some (.int .i64 c)) (hx : w.cell? ⟨Bx, 0, none⟩ = some v2)
    (D : DO w q b d (2 ^ M) r s) (hM : M ≤ 16) (hH : 2 * H = 2 ^ M) (hat : at' < H) (K1 : KnW w v1 P1 f) (K2 : KnW w v2 P2 g) (p1 : P1 at') (p2 : P1 (at' + H)) (p3 : P2 at') (b1 : -9223372036854775808 ≤ f at' ∧ f at' ≤ 9223372036854775807) (b2 : -9223372036854775808 ≤ f (at' + H) ∧ f (at' + H) ≤ 9223372036854775807) (b3 : -9223372036854775808 ≤ g at' ∧ g at' ≤ 9223372036854775807) (hc1 : -9223372036854775808 ≤ c) (hc2 : c ≤ 9223372036854775807) :
    Calls Tryz.prog 118 #[.int .i64 (at' : Int), .pointer (some ⟨Bd, 0, none⟩), .pointer (some ⟨Bn, 0, none⟩), .pointer (some ⟨Bh, 0, none⟩), .pointer (some ⟨Br, 0, none⟩), .pointer (some ⟨Bx, 0, none⟩)] w fun e w' =>
      e = .returned (.bool (!(decide (Fol.pairz q (Dom.pt q s r at') (f at') (f (at' + H)) c = g at' % (q : Int))))) ∧ Below w.heap.size w w' := by
  have hmx : Tryz.prog.follows .mixedOrders = true := by kernel_rfl
  have h3 := D.h3
  have h4 := D.hm
  obtain ⟨F1, i1, i2, rfl, hcf1, hk1⟩ := K1
  obtain ⟨F2, j1, j2, rfl, hcf2, hk2⟩ := K2
  have hle : 2 ^ M ≤ 2 ^ 16 := Nat.pow_le_pow_right (by omega) hM
  obtain ⟨ah, hah⟩ : ∃ ah, ah = at' + H := ⟨_, rfl⟩
  have e0 : IntKind.i64.wrap ((at' : Int) + (H : Int)) = (ah : Int) := by rw [IntKind.wrap_i64]; omega
  have e1 : (at' : Int) + (H : Int) = (ah : Int) := by omega
  have e2 : IntKind.i64.wrap (ah : Int) = (ah : Int) := by rw [IntKind.wrap_i64]; omega
  rw [← hah] at p2 b2 ⊢
  have HN1 : Hid (∀ W, Below w.heap.size w W → Calls Tryz.prog F1 #[.int .i64 (at' : Int), .pointer (some ⟨i1, 0, none⟩), .pointer (some ⟨i2, 0, none⟩)] W fun e w' => e = .returned (.int .i64 (f at')) ∧ Below w.heap.size w w') := fun W hb => (hk1 W at' hb p1).mono (fun _ _ h => ⟨h.1, hb.trans (h.2.mono hb.size)⟩)
  have HN2 : Hid (∀ W, Below w.heap.size w W → Calls Tryz.prog F1 #[.int .i64 (ah : Int), .pointer (some ⟨i1, 0, none⟩), .pointer (some ⟨i2, 0, none⟩)] W fun e w' => e = .returned (.int .i64 (f ah)) ∧ Below w.heap.size w w') := fun W hb => (hk1 W ah hb p2).mono (fun _ _ h => ⟨h.1, hb.trans (h.2.mono hb.size)⟩)
  have HN3 : Hid (∀ W, Below w.heap.size w W → Calls Tryz.prog F2 #[.int .i64 (at' : Int), .pointer (some ⟨j1, 0, none⟩), .pointer (some ⟨j2, 0, none⟩)] W fun e w' => e = .returned (.int .i64 (g at')) ∧ Below w.heap.size w w') := fun W hb => (hk2 W at' hb p3).mono (fun _ _ h => ⟨h.1, hb.trans (h.2.mono hb.size)⟩)
  have HF : Hid (∀ W, Below w.heap.size w W → Calls Tryz.prog 59 #[.pointer (some ⟨d, 0, none⟩)] W fun e w' => e = .returned (.pointer (some ⟨b, 0, none⟩)) ∧ Below w.heap.size w w') := fun W hb => by
    refine (dfield_any d b _ r s W (D.step hb).da).mono ?_
    rintro e w' ⟨rfl, rfl⟩
    exact ⟨rfl, hb⟩
  have HP : Hid (∀ W, Below w.heap.size w W → Calls Tryz.prog 116 #[.pointer (some ⟨d, 0, none⟩), .int .i64 (at' : Int)] W fun e w' => e = .returned (.int .i64 (Dom.pt q s r at')) ∧ Below w.heap.size w w') := fun W hb => by
    have D2 := D.step hb
    refine (point_any q b d M r s (at' : Int) W D2.pr D2.h3 D2.hm D2.hp D2.da hM D2.hr0 D2.hr1 D2.hs0 D2.hs1).mono ?_
    rintro e w' ⟨rfl, rfl⟩
    rw [← Int.natCast_emod, Nat.mod_eq_of_lt (by omega), Int.toNat_natCast]
    exact ⟨rfl, hb.drew⟩
  have hpb : 0 ≤ Dom.pt q s r at' ∧ Dom.pt q s r at' < q := emod_bounds (s * r ^ at') q h3
  have hnd := D.cir.pt_nd at'
  obtain ⟨x, hxx⟩ : ∃ x, x = Dom.pt q s r at' := ⟨_, rfl⟩
  rw [← hxx] at HP hpb hnd ⊢
  obtain ⟨y1, hy1⟩ : ∃ y, y = f at' := ⟨_, rfl⟩
  obtain ⟨y2, hy2⟩ : ∃ y, y = f ah := ⟨_, rfl⟩
  obtain ⟨y3, hy3⟩ : ∃ y, y = g at' := ⟨_, rfl⟩
  rw [← hy1] at HN1 b1 ⊢
  rw [← hy2] at HN2 b2 ⊢
  rw [← hy3] at HN3 b3 ⊢
  have HJ : Hid (∀ W, Below w.heap.size w W → Calls Tryz.prog 119 #[.pointer (some ⟨b, 0, none⟩), .int .i64 x, .int .i64 y1, .int .i64 y2, .int .i64 c] W fun e w' => e = .returned (.int .i64 (Fol.pairz q x y1 y2 c)) ∧ Below w.heap.size w w') := fun W hb => by
    refine (fjoined_any q b x y1 y2 c W D.pr h3 h4 (D.step hb).hp hnd hpb.1 hpb.2 b1.1 b1.2 b2.1 b2.2 hc1 hc2).mono ?_
    rintro e w' ⟨rfl, rfl⟩
    exact ⟨rfl, hb⟩
  have HO : Hid (∀ W, Below w.heap.size w W → Calls Tryz.prog 80 #[.pointer (some ⟨b, 0, none⟩), .int .i64 y3] W fun e w' => e = .returned (.int .i64 (y3 % (q : Int))) ∧ Below w.heap.size w w') := fun W hb => by
    refine (of_any q b y3 W h3 h4 (D.step hb).hp b3.1 b3.2).mono ?_
    rintro e w' ⟨rfl, rfl⟩
    exact ⟨rfl, hb⟩
  have HK : Hid (∀ W, Below w.heap.size w W → W.cell? ⟨Bd, 0, none⟩ = some (.pointer (some ⟨d, 0, none⟩)) ∧ W.cell? ⟨Bn, 0, none⟩ = some (.func (.func F1) #[] #[.pointer (some ⟨i1, 0, none⟩), .pointer (some ⟨i2, 0, none⟩)]) ∧ W.cell? ⟨Bh, 0, none⟩ = some (.int .i64 (H : Int)) ∧ W.cell? ⟨Br, 0, none⟩ = some (.int .i64 c) ∧ W.cell? ⟨Bx, 0, none⟩ = some (.func (.func F2) #[] #[.pointer (some ⟨j1, 0, none⟩), .pointer (some ⟨j2, 0, none⟩)])) := fun W hb =>
    ⟨(hb.cell (p := ⟨Bd, 0, none⟩) (heap_lt h0)).trans h0, (hb.cell (p := ⟨Bn, 0, none⟩) (heap_lt h1)).trans h1, (hb.cell (p := ⟨Bh, 0, none⟩) (heap_lt h2)).trans h2, (hb.cell (p := ⟨Br, 0, none⟩) (heap_lt hr)).trans hr, (hb.cell (p := ⟨Bx, 0, none⟩) (heap_lt hx)).trans hx⟩
  have hdd : Below w.heap.size w w.drew := (Below.refl _ _).drew
  have hd0 : Below w.heap.size w w := Below.refl _ _
  clear D hxx hpb hnd h0 h1 h2 hr hx hk1 hk2 p1 p2 p3 b1 b2 b3 hy1 hy2 hy3 hle hH hah hat
  generalize Fol.pairz q x y1 y2 c = z1 at *
  generalize y3 % (q : Int) = z2 at *
  go_enter Tryz.func118, Tryz.ntmps118
  go_wp2_with fail
  go_region_held3 (fun W => W.cell? ⟨Bd, 0, none⟩ = some (.pointer (some ⟨d, 0, none⟩)) ∧ W.cell? ⟨Bn, 0, none⟩ = some (.func (.func F1) #[] #[.pointer (some ⟨i1, 0, none⟩), .pointer (some ⟨i2, 0, none⟩)]) ∧ W.cell? ⟨Bh, 0, none⟩ = some (.int .i64 (H : Int)) ∧ W.cell? ⟨Br, 0, none⟩ = some (.int .i64 c) ∧ W.cell? ⟨Bx, 0, none⟩ = some (.func (.func F2) #[] #[.pointer (some ⟨j1, 0, none⟩), .pointer (some ⟨j2, 0, none⟩)])) (exact HK.out _ (by assumption))
    (first
      | (go_at_call 59; refine (HF.out _ (by assumption)).mono ?_; rintro e w' ⟨rfl, hb'⟩)
      | (go_at_call 116; refine (HP.out _ (by assumption)).mono ?_; rintro e w' ⟨rfl, hb'⟩)
      | (go_at_call 119; refine (HJ.out _ (by assumption)).mono ?_; rintro e w' ⟨rfl, hb'⟩)
      | (refine (HN1.out _ (by assumption)).mono ?_; rintro e w' ⟨rfl, hb'⟩)
      | (refine (HN2.out _ (by assumption)).mono ?_; rintro e w' ⟨rfl, hb'⟩))
  have hb2 : Below w.heap.size w w'.drew := hb'.drew
  have HBX := hid hb'
  go_wp2_with fail
  go_region_held3 (fun W => W.cell? ⟨Bd, 0, none⟩ = some (.pointer (some ⟨d, 0, none⟩)) ∧ W.cell? ⟨Bn, 0, none⟩ = some (.func (.func F1) #[] #[.pointer (some ⟨i1, 0, none⟩), .pointer (some ⟨i2, 0, none⟩)]) ∧ W.cell? ⟨Bh, 0, none⟩ = some (.int .i64 (H : Int)) ∧ W.cell? ⟨Br, 0, none⟩ = some (.int .i64 c) ∧ W.cell? ⟨Bx, 0, none⟩ = some (.func (.func F2) #[] #[.pointer (some ⟨j1, 0, none⟩), .pointer (some ⟨j2, 0, none⟩)])) (exact HK.out _ (by assumption))
    (first
      | (go_at_call 59; refine (HF.out _ (by assumption)).mono ?_; rintro e w' ⟨rfl, hb'⟩)
      | (go_at_call 80; refine (HO.out _ (by assumption)).mono ?_; rintro e w' ⟨rfl, hb'⟩)
      | (refine (HN3.out _ (by assumption)).mono ?_; rintro e w' ⟨rfl, hb'⟩))
  go_wp2_with fail
  go_ret
  refine ⟨?_, by assumption⟩
  first
    | rfl
    | (by_cases hz : z1 = z2 <;> simp [hz])

/-- where a word is looked at, it is folded to what the next one has -/
def ftb (q H : Nat) (r s c : Int) (f g : Nat → Int) (l : List Int) : Bool := evc (fun k => decide (Fol.pairz q (Dom.pt q s r (zat (mdz l H) k).toNat) (f (zat (mdz l H) k).toNat) (f ((zat (mdz l H) k).toNat + H)) c = g (zat (mdz l H) k).toNat % (q : Int))) (mdz l H).length
theorem ftb_iff {q H : Nat} {r s c : Int} {f g : Nat → Int} {l : List Int} : ftb q H r s c f g l = true ↔ ∀ j, j < l.length → Fol.pairz q (Dom.pt q s r (zat l j % (H : Int)).toNat) (f (zat l j % (H : Int)).toNat) (f ((zat l j % (H : Int)).toNat + H)) c = g (zat l j % (H : Int)).toNat % (q : Int) := by
  unfold ftb
  rw [evc_iff]
  constructor
  · intro h j hj
    have hm : zat l j % (H : Int) ∈ mdz l H := ((onc_is _).2 _).2 (List.mem_map.2 ⟨zat l j, by
      rw [zat, List.getElem?_eq_getElem hj]; exact List.getElem_mem hj, rfl⟩)
    obtain ⟨k, hk, hz⟩ := mem_zat hm
    have := h k hk
    rw [decide_eq_true_eq, hz] at this
    exact this
  · intro h k hk
    rw [decide_eq_true_eq]
    have hm : zat (mdz l H) k ∈ mdz l H := by rw [zat, List.getElem?_eq_getElem hk]; exact List.getElem_mem hk
    obtain ⟨x, hx, he⟩ := List.mem_map.1 (((onc_is _).2 _).1 hm)
    obtain ⟨j, hj, hz⟩ := mem_zat hx
    have := h j hj
    rw [hz, he] at this
    exact this

theorem box_at (w : World) (x : Value) (t : TypeId) (g : Nat) (hg : w.heap.size = g) : (w.alloc (.cells #[x] t)).cell? ⟨g, 0, none⟩ = some x := by
  subst hg
  exact cell_alloc_at w #[x] t 0 x rfl
theorem box_old (w : World) (o : Obj) {p : Addr} {v : Value} (h : w.cell? p = some v) : (w.alloc o).cell? p = some v := (((Below.refl w.heap.size w).alloc (Nat.le_refl _) o).cell (World.block_lt_of_cell? _ _ h)).trans h
theorem onc_len : ∀ ps : List Int, (onc ps).length ≤ ps.length
  | [] => by simp [onc]
  | x :: ps => by
    have h := onc_len ps
    have hi : ∀ (y : Int) (os : List Int), (insz y os).length ≤ os.length + 1 := fun y os => by
      induction os with
      | nil => simp [insz]
      | cons z os ih =>
        unfold insz
        split
        · simp
        · split
          · simp
          · simp; omega
    have := hi x (onc ps)
    show (insz x (onc ps)).length ≤ (x :: ps).length
    rw [List.length_cons]
    omega
theorem mdz_len (l : List Int) (n : Nat) : (mdz l n).length ≤ l.length := by
  have := onc_len (l.map (· % (n : Int)))
  rw [List.length_map] at this
  exact this

set_option maxRecDepth 100000 in
set_option maxHeartbeats 2000000 in
theorem foldsto_any (q b d M H cl : Nat) (r s c : Int) (v1 v2 : Value) (P1 P2 : Nat → Prop) (f g : Nat → Int) (al : Option Addr) (l : List Int) (w : World) (D : DO w q b d (2 ^ M) r s) (hM : M ≤ 16) (hH : 2 * H = 2 ^ M) (K1 : KnW w v1 P1 f) (K2 : KnW w v2 P2 g)
    (hl1 : l.length ≤ 1000) (hl2 : ∀ j, j < l.length → 0 ≤ zat l j ∧ zat l j ≤ 9223372036854775807) (hll : Lst w.heap.size w al cl l)
    (hp : ∀ x : Nat, (x : Int) ∈ mdz l H → P1 x ∧ P1 (x + H) ∧ P2 x ∧ (-9223372036854775808 ≤ f x ∧ f x ≤ 9223372036854775807) ∧ (-9223372036854775808 ≤ f (x + H) ∧ f (x + H) ≤ 9223372036854775807) ∧ (-9223372036854775808 ≤ g x ∧ g x ≤ 9223372036854775807)) (hc1 : -9223372036854775808 ≤ c) (hc2 : c ≤ 9223372036854775807) :
    Calls Tryz.prog 61 #[.pointer (some ⟨d, 0, none⟩), v1, v2, .int .i64 c, .slice al l.length cl] w fun e w' => e = .returned (.bool (ftb q H r s c f g l)) ∧ Below w.heap.size w w' := by
  have hmf : ∀ (fn : Fn) (first cap : Array Value) (w : World), (Instr.makeFunc fn first cap).run Tryz.prog w = .ok (.func fn first cap) w := fun _ _ _ _ => rfl
  have hle : 2 ^ M ≤ 2 ^ 16 := Nat.pow_le_pow_right (by omega) hM
  have hpos : 0 < 2 ^ M := Nat.two_pow_pos M
  have HD := hid D
  have HK1 := hid K1
  have HK2 := hid K2
  have HPP := hid hp
  have HL := hid hll
  obtain ⟨NN, hNN⟩ : ∃ NN, NN = 2 ^ M := ⟨_, rfl⟩
  have q0 : (NN : Int) / 2 = (H : Int) := by omega
  have q1 : (NN : Int).tdiv 2 = (H : Int) := by rw [Int.tdiv_eq_ediv_of_nonneg (by omega)]; omega
  have q2 : IntKind.i64.wrap (H : Int) = (H : Int) := by rw [IntKind.wrap_i64]; omega
  have q3 : 0 ≤ (NN : Int) := by omega
  have hH0 : 0 < H := by omega
  have hH1 : H ≤ 65536 := by omega
  have HH := hid hH
  obtain ⟨F1, i1, i2, rfl, _, _⟩ := K1
  obtain ⟨F2, j1, j2, rfl, _, _⟩ := K2
  obtain ⟨v1, hv1⟩ : ∃ v1 : Value, v1 = .func (.func F1) #[] #[.pointer (some ⟨i1, 0, none⟩), .pointer (some ⟨i2, 0, none⟩)] := ⟨_, rfl⟩
  obtain ⟨v2, hv2⟩ : ∃ v2 : Value, v2 = .func (.func F2) #[] #[.pointer (some ⟨j1, 0, none⟩), .pointer (some ⟨j2, 0, none⟩)] := ⟨_, rfl⟩
  rw [← hv1] at HK1
  rw [← hv2] at HK2
  obtain ⟨W4, hW4⟩ : ∃ W4, W4 = (((w.alloc (.cells #[.pointer (some ⟨d, 0, none⟩)] 23)).alloc (.cells #[v1] 121)).alloc (.cells #[v2] 121)).alloc (.cells #[.int .i64 c] 3) := ⟨_, rfl⟩
  have hb4 : Below w.heap.size w W4 := by rw [hW4]; exact ((((Below.refl _ _).alloc (Nat.le_refl _) _).alloc (by simp) _).alloc (by simp; omega) _).alloc (by simp; omega) _
  have hc0 : W4.cell? ⟨w.heap.size, 0, none⟩ = some (.pointer (some ⟨d, 0, none⟩)) := by rw [hW4]; exact box_old _ _ (box_old _ _ (box_old _ _ (box_at _ _ _ _ rfl)))
  have hc1' : W4.cell? ⟨w.heap.size + 1, 0, none⟩ = some v1 := by rw [hW4]; exact box_old _ _ (box_old _ _ (box_at _ _ _ _ (by simp)))
  have hc2' : W4.cell? ⟨w.heap.size + 1 + 1, 0, none⟩ = some v2 := by rw [hW4]; exact box_old _ _ (box_at _ _ _ _ (by simp))
  have hc3' : W4.cell? ⟨w.heap.size + 1 + 1 + 1, 0, none⟩ = some (.int .i64 c) := by rw [hW4]; exact box_at _ _ _ _ (by simp)
  have HCS : Hid (∀ W, Below W4.heap.size W4 W → W.cell? ⟨w.heap.size, 0, none⟩ = some (.pointer (some ⟨d, 0, none⟩)) ∧ W.cell? ⟨w.heap.size + 1, 0, none⟩ = some v1 ∧ W.cell? ⟨w.heap.size + 1 + 1, 0, none⟩ = some v2 ∧ W.cell? ⟨w.heap.size + 1 + 1 + 1, 0, none⟩ = some (.int .i64 c)) := fun W hb =>
    ⟨(hb.cell (p := ⟨w.heap.size, 0, none⟩) (heap_lt hc0)).trans hc0, (hb.cell (p := ⟨w.heap.size + 1, 0, none⟩) (heap_lt hc1')).trans hc1', (hb.cell (p := ⟨w.heap.size + 1 + 1, 0, none⟩) (heap_lt hc2')).trans hc2', (hb.cell (p := ⟨w.heap.size + 1 + 1 + 1, 0, none⟩) (heap_lt hc3')).trans hc3'⟩
  have HB4 := hid hb4
  have HSZ : Hid (Calls Tryz.prog 36 #[.pointer (some ⟨d, 0, none⟩)] W4 fun e w' => e = .returned (.int .i64 (NN : Int)) ∧ w' = W4) := by
    have := size_any d b _ r s W4 (D.step hb4).da
    rwa [← hNN] at this
  have HW4 := hid hW4
  have HV1 := hid hv1
  have HV2 := hid hv2
  rw [hv1, hv2] at hW4
  have hcf := enters_of Tryz.func118 (by kernel_rfl) (by kernel_rfl)
  clear D hp hll hH hNN hle hpos hb4 hc0 hc1' hc2' hc3' HW4 hv1 hv2
  obtain ⟨E, hE⟩ : ∃ E, E = ftb q H r s c f g l := ⟨_, rfl⟩
  rw [← hE]
  have HE := hid hE
  clear hE
  go_enter Tryz.func61, Tryz.ntmps61
  go_wp2_with fail
  rw [← hW4]
  clear hW4
  refine HSZ.out.mono ?_
  rintro e w5 ⟨rfl, rfl⟩
  have HB5 : Hid (Below w5.heap.size w5 (w5.alloc (.cells #[.int .i64 (H : Int)] 3))) := (Below.refl _ _).alloc (Nat.le_refl _) _
  have HX5 : Hid ((w5.alloc (.cells #[.int .i64 (H : Int)] 3)).cell? ⟨w5.heap.size, 0, none⟩ = some (.int .i64 (H : Int))) := by unfold Hid; simp
  have HWI : Hid (∀ W, Below w.heap.size w W → Calls Tryz.prog 93 #[.slice al l.length cl, .int .i64 (H : Int)] W fun e w' => ∃ av cv, e = .returned (.slice av (mdz l H).length cv) ∧ RowB w'.heap.size w' av (mdz l H) ∧ Below W.heap.size W w') := fun W hb => by
    refine (within_any cl H al l W hH0 hH1 hl1 hl2 ((HL.out.below hb).mono hb.size)).mono ?_
    rintro e w' ⟨v, rfl, ho, hb'⟩
    obtain ⟨av, cv, rfl, hr⟩ := rowB_of_owns ho
    exact ⟨av, cv, rfl, hr, hb'⟩
  have HCO : Hid (∀ (W : World) (av : Option Addr) (cv : Nat), Below w5.heap.size w5 W → W.cell? ⟨w5.heap.size, 0, none⟩ = some (.int .i64 (H : Int)) → RowB W.heap.size W av (mdz l H) → Calls Tryz.prog 117 #[.slice av (mdz l H).length cv, .func (.func 118) #[] #[.pointer (some ⟨w.heap.size, 0, none⟩), .pointer (some ⟨w.heap.size + 1, 0, none⟩), .pointer (some ⟨w5.heap.size, 0, none⟩), .pointer (some ⟨w.heap.size + 1 + 1 + 1, 0, none⟩), .pointer (some ⟨w.heap.size + 1 + 1, 0, none⟩)]] W fun e w' => e = .returned (.bool (!(ftb q H r s c f g l))) ∧ Below W.heap.size W w') := fun W av cv hb hch hr => by
    refine containsg_any 118 cv _ av (mdz l H) _ W ?_ hr hcf (fun W2 k hb2 hk => ?_)
    · exact Nat.le_trans (mdz_len l H) (by omega)
    · have hm : zat (mdz l H) k ∈ mdz l H := by rw [zat, List.getElem?_eq_getElem hk]; exact List.getElem_mem hk
      obtain ⟨x0, x1⟩ := mdz_in hH0 _ hm
      obtain ⟨x, hx⟩ := Int.eq_ofNat_of_zero_le x0
      rw [hx] at hm x1 ⊢
      rw [Int.toNat_natCast]
      obtain ⟨p1, p2, p3, p4, p5, p6⟩ := HPP.out x hm
      have hbb := hb.trans (hb2.mono hb.size)
      have hbw := HB4.out.trans (hbb.mono HB4.out.size)
      obtain ⟨y0, y1, y2, y3⟩ := HCS.out W2 hbb
      exact foldone_any q b d M H w.heap.size (w.heap.size + 1) w5.heap.size (w.heap.size + 1 + 1 + 1) (w.heap.size + 1 + 1) x r s c v1 v2 P1 P2 f g W2 y0 y1 ((hb2.cell (p := ⟨w5.heap.size, 0, none⟩) (heap_lt hch)).trans hch) y3 y2 (HD.out.step hbw) hM HH.out (by omega) (HK1.out.step hbw) (HK2.out.step hbw) p1 p2 p3 p4 p5 p6 hc1 hc2
  rw [← HE.out] at HCO
  generalize (mdz l H).length = LL at *
  generalize l.length = nl at *
  go_wp2_with fail
  generalize w5.alloc (.cells #[.int .i64 (H : Int)] 3) = W5 at *
  refine (HWI.out W5 (HB4.out.trans (HB5.out.mono HB4.out.size))).mono ?_
  rintro e w6 ⟨av, cv, rfl, hr6, hb6⟩
  have HC6 := hid (HCO.out w6 av cv (HB5.out.trans (hb6.mono HB5.out.size)) ((hb6.cell (p := ⟨w5.heap.size, 0, none⟩) (heap_lt HX5.out)).trans HX5.out) hr6)
  have HB6 := hid ((HB4.out.trans (HB5.out.mono HB4.out.size)).trans (hb6.mono (HB4.out.trans (HB5.out.mono HB4.out.size)).size))
  clear hr6 hb6 HCO HWI HX5 HSZ
  go_wp2_with fail
  refine HC6.out.mono ?_
  rintro e w7 ⟨rfl, hb7⟩
  have HB7 := hid (HB6.out.trans (hb7.mono HB6.out.size))
  clear hb7 HC6
  go_wp2_with fail
  go_ret
  exact ⟨by simp, HB7.out⟩

end Go.Proofs.YtfppkjpgihnibaaGreatDoor
