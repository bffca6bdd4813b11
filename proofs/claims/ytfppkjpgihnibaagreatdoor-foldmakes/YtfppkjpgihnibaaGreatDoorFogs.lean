/- Package fold: within, mayShow. Package fold: domains. Package fold: arePairs; slices.ContainsFunc of rows, and of numbers. Package fold: drawPlaces; what is known of a word: shownWords' functions. Package fold: what is known of a word (shownWords' functions); foldsTo. Package fold: foldsTo. -/
import Derived.Test.YtfppkjpgihnibaaGreatDoorFogA
import Derived.Test.YtfppkjpgihnibaaGreatDoorTrhE
import Derived.Test.YtfppkjpgihnibaaGreatDoorFolG
import Derived.Test.YtfppkjpgihnibaaGreatDoorChnz
import Derived.Test.YtfppkjpgihnibaaGreatDoorTrhs
import Derived.Test.YtfppkjpgihnibaaGreatDoorSpgs
import Derived.Test.YtfppkjpgihnibaaGreatDoorTrgx
import Derived.Deep.RegionHeld3
namespace Go.Proofs.YtfppkjpgihnibaaGreatDoor
open Go.RowKit Go.Sort

theorem arr_owns {w : World} {base g n : Nat} {f : Nat → Int} {zs : List Int} (h : ArrI w g 3 n f) (hb : base ≤ g) (hn : n ≤ maxLen) (hl : zs.length = n) (hz : ∀ j, j < n → zat zs j = f j) : w.ownsRow base 3 1 (.slice (some ⟨g, 0, none⟩) zs.length n) zs.length (zs.map (Value.int .i64)) := by
  refine ⟨by simp, .inr ⟨g, n, an n f, rfl, hb, h.heap, by omega, hn, by rw [an_size]; omega, ?_⟩⟩
  refine List.ext_getElem? fun j => ?_
  rcases Nat.lt_or_ge j n with g | g
  · rw [List.getElem?_take_of_lt (by omega), Array.getElem?_toList, an_at g, List.getElem?_map, List.getElem?_eq_getElem (by omega)]
    have := hz j g
    rw [zat, List.getElem?_eq_getElem (by omega)] at this
    simp at this ⊢
    exact this.symm
  · rw [List.getElem?_eq_none (by rw [List.length_take]; omega), List.getElem?_eq_none (by simp; omega)]

set_option maxRecDepth 100000 in
set_option maxHeartbeats 1000000 in
/-- within: the places modulo so many rows, each once, ascending -/
theorem within_any (cap N : Nat) (a : Option Addr) (l : List Int) (w : World) (hN : 0 < N) (hN2 : N ≤ 65536) (hlen : l.length ≤ 1000) (hf : ∀ j, j < l.length → 0 ≤ zat l j ∧ zat l j ≤ 9223372036854775807) (hl : Lst w.heap.size w a cap l) :
    Calls Tryz.prog 93 #[.slice a l.length cap, .int .i64 (N : Int)] w fun e w' => ∃ v, e = .returned v ∧ w'.ownsRow w.heap.size 3 1 v (mdz l N).length ((mdz l N).map (Value.int .i64)) ∧ Below w.heap.size w w' := by
  have HL := hid hl
  have HF := hid hf
  obtain ⟨n, hn⟩ : ∃ n, n = l.length := ⟨_, rfl⟩
  rw [← hn] at hlen ⊢
  have HNN := hid hn
  have HLL : Hid ((l.map (· % (N : Int))).length = n) := by unfold Hid; rw [List.length_map, hn]
  obtain ⟨G, hG⟩ : ∃ G : Nat → Int, G = zat (l.map (· % (N : Int))) := ⟨_, rfl⟩
  have HG : Hid (∀ k, k < n → G k = zat l k % (N : Int)) := fun k hk => by
    rw [hG]
    simp [zat, List.getElem?_eq_getElem (show k < l.length by omega)]
  have HGZ := hid hG
  have hmk2 := fun w => run_make_row' (P := Tryz.prog) 22 3 (.int .i64 0) 8 Tryz.underlying22 Tryz.infoInt rfl .i64 .i64 n (by omega) (by omega) w
  have hN0 : ¬ (N : Int) = 0 := by omega
  have hNz : ((N : Int) == 0) = false := by rw [beq_eq_false_iff_ne]; omega
  clear hl hf hn hG
  go_enter Tryz.func93, Tryz.ntmps93
  go_wp2_with fail
  go_loopw [13] (fun iv wr => ∃ k : Nat, k ≤ n ∧ iv = .int .i64 k ∧ Hid (ArrI wr w.heap.size 3 n (fll G (fun _ => 0) k) ∧ Below w.heap.size w wr)) (fun iv _ => n - (intOf iv).toNat)
  case atStart => exact ⟨0, by omega, rfl, by rw [fll_zero]; exact World.rowIs_made _ _ _ _, (Below.refl _ _).alloc (Nat.le_refl _) _⟩
  case round =>
    obtain ⟨k, hk, rfl, hI⟩ := hrel
    by_cases hlt : k < n
    · have hlt2 : (k : Int) < (n : Int) := by omega
      have hks : IntKind.i64.wrap ((k : Int) + 1) = (k : Int) + 1 := by rw [IntKind.wrap_i64]; omega
      obtain ⟨b0, o0, rfl, hb0, hc⟩ := HL.out.row k (by rw [← HNN.out]; exact hlt)
      have hc2 := (hI.out.2.cell (p := ⟨b0, o0 + k, none⟩) hb0).trans hc
      obtain ⟨f1, f2⟩ := HF.out k (by rw [← HNN.out]; exact hlt)
      have HGk : Hid (G k = zat l k % (N : Int)) := HG.out k hlt
      have c1 := hI.out.1.cell hlt
      have y1 := hI.out.1.frozen k
      have HA2 := hid hI.out.1.next
      have HBL := hid (hI.out.2.setCell (p := ⟨w.heap.size, k, none⟩) (by simp) (.int .i64 (G k)))
      generalize zat l k = x at *
      have t1 : x.tmod (N : Int) = G k := by rw [HGk.out]; exact Int.tmod_eq_emod_of_nonneg f1
      have t0 : IntKind.i64.wrap (G k) = G k := by
        have h1 := Int.emod_nonneg x (show (N : Int) ≠ 0 by omega)
        have h2 := Int.emod_lt_of_pos x (show (0 : Int) < N by omega)
        rw [HGk.out, IntKind.wrap_i64]; omega
      generalize G k = y at *
      generalize fll G (fun _ => 0) k k = y0 at *
      clear hI hc HGk
      go_wp2_with fail
      go_roundw
      case rel => exact ⟨k + 1, by omega, by go_num, HA2.out, HBL.out⟩
      case measure => simp [intOf]; omega
    · obtain rfl : k = n := by omega
      have hlt2 : ¬ (k : Int) < (k : Int) := by omega
      have hA : ArrI wr w.heap.size 3 k (zat (l.map (· % (N : Int)))) := hI.out.1.congr (fun j hj => by rw [fll_all hj, HGZ.out])
      have hsz : w.heap.size < wr.heap.size := hA.lt
      obtain ⟨zs, hzs⟩ : ∃ zs, zs = l.map (· % (N : Int)) := ⟨_, rfl⟩
      have HMD : Hid (Lib.compact (zs.mergeSort fun x y => decide (x ≤ y)) = mdz l N) := by unfold Hid mdz; rw [hzs]; exact onc_eq (once_compact _)
      have HZL : Hid (zs.length = k) := by unfold Hid; rw [hzs]; exact HLL.out
      rw [← hzs] at hA
      have hrow := arr_owns (base := w.heap.size) hA (Nat.le_refl _) (by unfold maxLen; omega) HZL.out (fun j _ => rfl)
      have HB := hid hI.out.2
      clear hI HLL HGZ hzs hA
      rcases hrow.2 with ⟨e1, hz⟩ | ⟨gb, cap', cur, e1, hbase, hgb, r1, r2, r3, r4⟩
      · cases e1
      · cases e1
        rw [HZL.out] at r1
        have hH : Holds (Value.int .i64) wr w.heap.size 0 zs.toArray := holds_of_block_i hgb (by simpa using r4)
        have HS : Hid (Calls Tryz.prog 172 #[.slice (some ⟨w.heap.size, 0, none⟩) k k] wr fun e w' =>
            e = .returned (.tuple #[]) ∧ ∃ n os, w' = grow (putRow (Value.int .i64) (Sort.ahead wr n) w.heap.size 0 (zs.mergeSort fun x y => decide (x ≤ y)).toArray) os) := by
          have := Tryz.sort_any w.heap.size 0 k zs wr hH hsz (by rw [HZL.out]; omega)
          rwa [HZL.out] at this
        have HE : Hid (∀ (n : Nat) (os : Array Obj), (grow (putRow (Value.int .i64) (Sort.ahead wr n) w.heap.size 0 (zs.mergeSort fun x y => decide (x ≤ y)).toArray) os).ownsRow w.heap.size 3 1 (.slice (some ⟨w.heap.size, 0, none⟩) k k) k ((zs.mergeSort fun x y => decide (x ≤ y)).map (Value.int .i64)) ∧ Below w.heap.size w (grow (putRow (Value.int .i64) (Sort.ahead wr n) w.heap.size 0 (zs.mergeSort fun x y => decide (x ≤ y)).toArray) os)) := fun n os => by
          have h := ownsRow_sorted_i (n := n) (os := os) (ss := zs) (ts := zs.mergeSort fun x y => decide (x ≤ y)) (by simp) hbase hgb (by rw [HZL.out]; exact r1) r2 r3
          rw [HZL.out] at h
          exact ⟨h, HB.out.grown (grownBy_sorted_i _) HB.out.size (fun j hj => by cases hj; exact hbase)⟩
        have HSL : Hid ((zs.mergeSort fun x y => decide (x ≤ y)).length = k) := by unfold Hid; rw [List.length_mergeSort, HZL.out]
        clear hrow hbase hgb r1 r2 r3 r4 hH HB
        go_wp2_with fail
        refine HS.out.mono ?_
        rintro e w2 ⟨rfl, n', os, rfl⟩
        have HE2 := hid (HE.out n' os)
        generalize grow (putRow (Value.int .i64) (Sort.ahead wr n') w.heap.size 0 (zs.mergeSort fun x y => decide (x ≤ y)).toArray) os = W2 at *
        generalize (zs.mergeSort fun x y => decide (x ≤ y)) = ts at *
        have HC : Hid (Calls Tryz.prog 163 #[.slice (some ⟨w.heap.size, 0, none⟩) k k] W2 fun e w' => ∃ v', e = .returned v' ∧ w'.ownsRow w.heap.size 3 1 v' (Lib.compact ts).length ((Lib.compact ts).map (Value.int .i64)) ∧ Below w.heap.size W2 w') :=
          compact_own w.heap.size _ ts W2 (by rw [HSL.out]; omega) (by rw [HSL.out]; exact HE2.out.1) HE2.out.2.size
        rw [HMD.out] at HC
        clear HS HE HMD HSL
        go_wp2_with fail
        refine HC.out.mono ?_
        rintro e w3 ⟨v', rfl, hv, hb3⟩
        have HV := hid hv
        have HB3 := hid (HE2.out.2.trans hb3)
        clear hv hb3 HC HE2
        go_wp2_with fail
        go_ret
        exact ⟨v', rfl, HV.out, HB3.out⟩

theorem fz5_iff {n : Nat} {k asked : Int} (hn : n ≤ 65536) : fz5 n k asked = 0 ↔ 1 ≤ k ∧ k ≤ (n / 2 : Nat) ∧ (pnz k.toNat = 1) ∧ 1 ≤ asked ∧ asked ≤ 64 := by
  unfold fz5
  constructor
  · intro h
    split at h
    · rename_i hh
      obtain ⟨h1, h2, h3, h4⟩ := hh
      obtain ⟨j, h5, rfl⟩ := (twb_iff (by omega)).1 h2
      have : 0 < 2 ^ j := Nat.two_pow_pos j
      exact ⟨by omega, by omega, by rw [Int.toNat_natCast]; exact (pnz_one (by omega)).2 ⟨j, by
        rcases Nat.lt_or_ge j 17 with g | g
        · omega
        · have : 2 ^ 17 ≤ 2 ^ j := Nat.pow_le_pow_right (by omega) g
          omega, rfl⟩, h3, h4⟩
    · omega
  · rintro ⟨h1, h2, h3, h4, h5⟩
    obtain ⟨j, _, hj⟩ := (pnz_one (n := k.toNat) (by omega)).1 h3
    rw [if_pos ⟨by omega, (twb_iff (by omega)).2 ⟨j, by omega, by omega⟩, h4, h5⟩]

set_option maxRecDepth 100000 in
set_option maxHeartbeats 1000000 in
theorem mayshow_any (n d b : Nat) (r s k asked : Int) (w : World) (hd : DomAt w d b (n : Int) r s) (hn : n ≤ 65536) (hk1 : -9223372036854775808 ≤ k) (hk2 : k ≤ 9223372036854775807) :
    Calls Tryz.prog 35 #[.pointer (some ⟨d, 0, none⟩), .int .i64 k, .int .i64 asked] w fun e w' => e = .returned (.bool (decide (fz5 n k asked = 0))) ∧ w' = w := by
  have HS := hid (size_any d b (n : Int) r s w hd)
  have q0 : (n : Int) / 2 = ((n / 2 : Nat) : Int) := by omega
  have q1 : (n : Int).tdiv 2 = ((n / 2 : Nat) : Int) := by rw [Int.tdiv_eq_ediv_of_nonneg (by omega)]; omega
  have q2 : IntKind.i64.wrap ((n / 2 : Nat) : Int) = ((n / 2 : Nat) : Int) := by rw [IntKind.wrap_i64]; omega
  have HZ := hid (fz5_iff (k := k) (asked := asked) hn)
  obtain ⟨B, hB⟩ : ∃ B, B = decide (fz5 n k asked = 0) := ⟨_, rfl⟩
  rw [← hB]
  have hh : n / 2 ≤ 32768 := by omega
  generalize hhh : n / 2 = h at *
  by_cases h1 : 1 ≤ k
  · by_cases h2 : k ≤ (h : Int)
    · obtain ⟨kk, rfl⟩ := Int.eq_ofNat_of_zero_le (show 0 ≤ k by omega)
      have hu : IntKind.u64.wrap (kk : Int) = (kk : Int) := by rw [IntKind.wrap_u64]; omega
      have HO := hid (ones_any kk w (by omega))
      rw [Int.toNat_natCast] at HZ
      by_cases h3 : pnz kk = 1
      · rw [h3] at HO
        by_cases h4 : 1 ≤ asked
        · have hBe : B = decide (asked ≤ 64) := by
            rw [hB, Bool.eq_iff_iff, decide_eq_true_eq, decide_eq_true_eq, HZ.out]
            exact ⟨fun g => g.2.2.2.2, fun g => ⟨h1, h2, h3, h4, g⟩⟩
          rw [hBe]
          clear hB hBe HZ h3
          go_enter Tryz.func35, Tryz.ntmps35
          go_wp2_with fail
          refine HS.out.mono ?_
          rintro e w1 ⟨rfl, rfl⟩
          go_wp2_with fail
          refine HO.out.mono ?_
          rintro e w1 ⟨rfl, rfl⟩
          go_wp2_with fail
          go_ret
          exact ⟨rfl, rfl⟩
        · have hBe : B = false := by
            rw [hB, decide_eq_false_iff_not, HZ.out]
            exact fun g => h4 g.2.2.2.1
          rw [hBe]
          clear hB hBe HZ h3
          go_enter Tryz.func35, Tryz.ntmps35
          go_wp2_with fail
          refine HS.out.mono ?_
          rintro e w1 ⟨rfl, rfl⟩
          go_wp2_with fail
          refine HO.out.mono ?_
          rintro e w1 ⟨rfl, rfl⟩
          go_wp2_with fail
          go_ret
          exact ⟨rfl, rfl⟩
      · have hBe : B = false := by
          rw [hB, decide_eq_false_iff_not, HZ.out]
          exact fun g => h3 g.2.2.1
        have h3' : (((pnz kk : Nat) : Int) == 1) = false := by rw [beq_eq_false_iff_ne]; omega
        rw [hBe]
        generalize pnz kk = z at *
        clear hB hBe HZ h3
        go_enter Tryz.func35, Tryz.ntmps35
        go_wp2_with fail
        refine HS.out.mono ?_
        rintro e w1 ⟨rfl, rfl⟩
        go_wp2_with fail
        refine HO.out.mono ?_
        rintro e w1 ⟨rfl, rfl⟩
        go_wp2_with fail
        go_ret
        exact ⟨rfl, rfl⟩
    · have hBe : B = false := by
        rw [hB, decide_eq_false_iff_not, HZ.out]
        exact fun g => h2 g.2.1
      rw [hBe]
      clear hB hBe HZ
      go_enter Tryz.func35, Tryz.ntmps35
      go_wp2_with fail
      refine HS.out.mono ?_
      rintro e w1 ⟨rfl, rfl⟩
      go_wp2_with fail
      go_ret
      exact ⟨rfl, rfl⟩
  · have hBe : B = false := by
      rw [hB, decide_eq_false_iff_not, HZ.out]
      exact fun g => h1 g.1
    rw [hBe]
    clear hB hBe HZ
    go_enter Tryz.func35, Tryz.ntmps35
    go_wp2_with fail
    go_ret
    exact ⟨rfl, rfl⟩

end Go.Proofs.YtfppkjpgihnibaaGreatDoor

namespace Go.Proofs.YtfppkjpgihnibaaGreatDoor
open Go.RowKit

theorem DO.gb {w w' : World} {p b d n c : Nat} {r s : Int} (h : DO w p b d n r s) (e : w.grownBy w' (some c)) (hb : b ≠ c) (hd : d ≠ c) : DO w' p b d n r s :=
  ⟨h.pr, h.h3, h.hm, (World.cell?_of_block (w := w) (a := ⟨b, 0, none⟩) (gb_blk e h.blt hb)).trans h.hp,
    by
      obtain ⟨c0, c1, c2, c3⟩ := h.da
      have hk := gb_blk e h.dlt hd
      exact ⟨(World.cell?_of_block (w := w) (a := ⟨d, 0, none⟩) hk).trans c0, (World.cell?_of_block (w := w) (a := ⟨d, 1, none⟩) hk).trans c1, (World.cell?_of_block (w := w) (a := ⟨d, 2, none⟩) hk).trans c2, (World.cell?_of_block (w := w) (a := ⟨d, 3, none⟩) hk).trans c3⟩,
    h.hk, h.hr0, h.hr1, h.ord, h.hs0, h.hs1, h.hsd⟩
/-- the domain of half the points -/
theorem DO.half {w w' : World} {p b d d' m : Nat} {r s : Int} (h : DO w p b d (2 * m) r s) (e : Below w.heap.size w w') (hd : DomAt w' d' b m (r * r % (p : Int)) (s * s % (p : Int))) : DO w' p b d' m (r * r % (p : Int)) (s * s % (p : Int)) := by
  have C := h.cir.half
  have h1 := emod_bounds (r * r) p h.h3
  have h2 := emod_bounds (s * s) p h.h3
  refine ⟨h.pr, h.h3, h.hm, (e.cell (p := ⟨b, 0, none⟩) h.blt).trans h.hp, hd, ?_, h1.1, h1.2, C.ord, h2.1, h2.2, C.sd⟩
  obtain ⟨k, hk, hm⟩ := h.hk
  cases k with
  | zero => omega
  | succ k => exact ⟨k, by omega, by rw [Nat.pow_succ] at hm; omega⟩

/-- the domains of the rounds, and of the end -/
structure DmL (q b K m : Nat) (r s : Int) (W : World) (ds : List Nat) : Prop where
  len : ds.length = m + 1
  dom : ∀ i, i ≤ m → DO W q b (ds.getD i 0) (2 ^ (K - i)) (sqi q r i) (sqi q s i)
theorem DmL.gb {q b K m : Nat} {r s : Int} {W W' : World} {ds : List Nat} {c : Nat} (h : DmL q b K m r s W ds) (e : W.grownBy W' (some c)) (hb : b ≠ c) (hd : ∀ i, i ≤ m → ds.getD i 0 ≠ c) : DmL q b K m r s W' ds := ⟨h.len, fun i hi => (h.dom i hi).gb e hb (hd i hi)⟩
theorem DmL.below {q b K m : Nat} {r s : Int} {W W' : World} {ds : List Nat} (h : DmL q b K m r s W ds) (e : Below W.heap.size W W') : DmL q b K m r s W' ds := ⟨h.len, fun i hi => (h.dom i hi).step e⟩

theorem getD_app {ds : List Nat} {x i : Nat} (h : i < ds.length) : (ds ++ [x]).getD i 0 = ds.getD i 0 := by simp [List.getD_eq_getElem?_getD, List.getElem?_append_left h]
theorem getD_last {ds : List Nat} {x : Nat} : (ds ++ [x]).getD ds.length 0 = x := by simp [List.getD_eq_getElem?_getD]

set_option maxRecDepth 100000 in
set_option maxHeartbeats 1000000 in
theorem domains_any (q b d K J : Nat) (r s : Int) (w : World) (D : DO w q b d (2 ^ K) r s) (hK : K ≤ 16) (hJ : J + 1 ≤ K) :
    Calls Tryz.prog 40 #[.pointer (some ⟨d, 0, none⟩), .int .i64 ((2 ^ J : Nat) : Int)] w fun e w' =>
      ∃ v ds, e = .returned v ∧ OwnP w.heap.size w' 23 v ds ∧ DmL q b K (J - 2) r s w' ds ∧ ds.getD 0 0 = d ∧ (∀ i, 1 ≤ i → i ≤ J - 2 → w.heap.size ≤ ds.getD i 0) ∧ Below w.heap.size w w' := by
  have HD := hid D
  have hdl := D.dlt
  have HH : Hid (∀ (W : World) (dd i : Nat), i < J - 2 → DO W q b dd (2 ^ (K - i)) (sqi q r i) (sqi q s i) → Calls Tryz.prog 94 #[.pointer (some ⟨dd, 0, none⟩)] W fun e w' => ∃ d' : Nat, e = .returned (.tuple #[.pointer (some ⟨d', 0, none⟩), .nilIface]) ∧ W.heap.size ≤ d' ∧ DO w' q b d' (2 ^ (K - (i + 1))) (sqi q r (i + 1)) (sqi q s (i + 1)) ∧ Below W.heap.size W w') := fun W dd i hi h => by
    have e1 : 2 ^ (K - i) = 2 * 2 ^ (K - (i + 1)) := by rw [show K - i = (K - (i + 1)) + 1 by omega, Nat.pow_succ]; omega
    rw [e1] at h
    have hle : 2 ^ (K - (i + 1)) ≤ 2 ^ 16 := Nat.pow_le_pow_right (by omega) (by omega)
    refine (half_any q b dd (2 ^ (K - (i + 1))) _ _ W h.h3 h.hm h.hp h.da (Nat.two_pow_pos _) (by omega) h.hr0 h.hr1 h.hs0 h.hs1).mono ?_
    rintro e w' ⟨d', rfl, h1, h2, h3⟩
    exact ⟨d', rfl, h1, h.half h3 h2, h3⟩
  have HP0 : Hid (OwnP w.heap.size (w.alloc (.cells #[.pointer (some ⟨d, 0, none⟩)] 23)) 23 (.slice (some ⟨w.heap.size, 0, none⟩) 1 1) [d]) := OwnP.one w _ d
  have HB0 : Hid (Below w.heap.size w (w.alloc (.cells #[.pointer (some ⟨d, 0, none⟩)] 23))) := (Below.refl _ _).alloc (Nat.le_refl _) _
  clear D
  go_enter Tryz.func40, Tryz.ntmps40
  go_wp2_with fail
  generalize w.alloc (.cells #[.pointer (some ⟨d, 0, none⟩)] 23) = W0 at *
  go_loopw [0, 1, 5] (fun dv kv v wr => ∃ (i : Nat) (ds : List Nat) (dd kk : Nat), i ≤ J - 2 ∧ dv = .pointer (some ⟨dd, 0, none⟩) ∧ kv = .int .i64 (kk : Int) ∧ Hid (kk = 2 ^ (J - i)) ∧ Hid (dd = ds.getD i 0) ∧ Hid (OwnP w.heap.size wr 23 v ds ∧ DmL q b K i r s wr ds ∧ ds.getD 0 0 = d ∧ (∀ j, 1 ≤ j → j ≤ i → w.heap.size ≤ ds.getD j 0) ∧ Below w.heap.size w wr)) (fun _ kv _ _ => (intOf kv).toNat)
  case atStart => exact ⟨0, [d], d, 2 ^ J, by omega, rfl, rfl, rfl, rfl, HP0.out, ⟨rfl, fun i hi => by
    have hi0 : i = 0 := by omega
    subst hi0
    exact HD.out.step HB0.out⟩, rfl, fun j h1 h2 => by omega, HB0.out⟩
  case round =>
    obtain ⟨i, ds, dd, kk, hi, rfl, rfl, hkk, hdd, hI⟩ := hrel
    by_cases hlt : i < J - 2
    · have hk4 : (4 : Int) < (kk : Int) := by
        have h1 : 2 ^ 3 ≤ 2 ^ (J - i) := Nat.pow_le_pow_right (by omega) (by omega)
        have h2 := hkk.out
        omega
      obtain ⟨k2, hk2⟩ : ∃ k2, k2 = 2 ^ (J - (i + 1)) := ⟨_, rfl⟩
      have hkk2 : kk = 2 * k2 := by rw [hkk.out, hk2, show J - i = (J - (i + 1)) + 1 by omega, Nat.pow_succ]; omega
      have hkb : kk ≤ 65536 := by
        have h1 : 2 ^ (J - i) ≤ 2 ^ 16 := Nat.pow_le_pow_right (by omega) (by omega)
        have h2 := hkk.out
        omega
      have q1 : (kk : Int).tdiv 2 = (k2 : Int) := by rw [Int.tdiv_eq_ediv_of_nonneg (by omega)]; omega
      have q0 : (kk : Int) / 2 = (k2 : Int) := by omega
      have q2 : IntKind.i64.wrap (k2 : Int) = (k2 : Int) := by rw [IntKind.wrap_i64]; omega
      have hk0 : 0 ≤ (kk : Int) := by omega
      have HX := hid (HH.out wr dd i hlt (by rw [hdd.out]; exact hI.out.2.1.dom i (Nat.le_refl _)))
      have HM : Hid (k2 < kk) := by unfold Hid; omega
      have HK2 := hid hk2
      clear hkk2 hk2 hkk hkb
      go_wp2_with fail
      refine HX.out.mono ?_
      rintro e w1 ⟨d', rfl, h1, h2, h3⟩
      have HH1 := hid h1
      have HH2 := hid h2
      have HH3 := hid h3
      have HO1 := hid (hI.out.1.below h3)
      have hN1 : w.heap.size ≤ w1.heap.size := Nat.le_trans hI.out.2.2.2.2.size h3.size
      have HLE : Hid (ds.length + 1 ≤ 4000000000000) := by unfold Hid; rw [hI.out.2.1.len]; omega
      have HII := hid hI.out
      clear h1 h2 h3 hI HX
      go_wp2_with (at_builtin; refine wpList_ptr1 w1 w.heap.size 90 23 Tryz.underlying90 (by kernel_rfl) rfl _ _ rfl _ ds d' HO1.out rfl rfl HLE.out hN1 ?_)
      intro v2 w2 ho2 hb2 hg2
      have HE : Hid (OwnP w.heap.size w2 23 v2 (ds ++ [d']) ∧ DmL q b K (i + 1) r s w2 (ds ++ [d']) ∧ (ds ++ [d']).getD 0 0 = d ∧ (∀ j, 1 ≤ j → j ≤ i + 1 → w.heap.size ≤ (ds ++ [d']).getD j 0) ∧ Below w.heap.size w w2 ∧ d' = (ds ++ [d']).getD (i + 1) 0) := by
        have hl := HII.out.2.1.len
        have hbb := HII.out.2.2.2.2.trans (HH3.out.mono HII.out.2.2.2.2.size)
        have hg : (ds ++ [d']).getD (i + 1) 0 = d' := by rw [← hl]; exact getD_last
        -- the own row's block is a row of pointers; no domain lies in it
        have hbk : ∀ (dd n : Nat) (rr ss : Int), DO w1 q b dd n rr ss → DO w2 q b dd n rr ss := fun dd n rr ss hdo => by
          obtain ⟨g, cap, hv, _, _, hob, _, _, hat⟩ := HO1.out.form (by omega)
          have h0 := hat 0 (by omega)
          rw [HII.out.2.2.1] at h0
          subst hv
          have hbg : b ≠ g := by
            rintro rfl
            have h1 := hdo.hp
            rw [h0] at h1
            cases h1
          refine hdo.gb hg2 hbg ?_
          rintro rfl
          have h1 := hdo.da.f
          rw [h0] at h1
          injection h1 with h1
          injection h1 with h1
          injection h1 with h1
          injection h1 with h1
          have h2 := HD.out.da.f
          rw [h1, HD.out.hp] at h2
          cases h2
        refine ⟨ho2, ⟨by simp [hl], fun j hj => ?_⟩, ?_, fun j h1 h2 => ?_, hbb.trans hb2, hg.symm⟩
        · rcases Nat.lt_or_ge j (i + 1) with g | g
          · rw [getD_app (by omega)]
            exact hbk _ _ _ _ ((HII.out.2.1.dom j (by omega)).step HH3.out)
          · obtain rfl : j = i + 1 := by omega
            rw [hg]
            exact hbk _ _ _ _ HH2.out
        · rw [getD_app (by omega)]; exact HII.out.2.2.1
        · rcases Nat.lt_or_ge j (i + 1) with g | g
          · rw [getD_app (by omega)]; exact HII.out.2.2.2.1 j h1 (by omega)
          · obtain rfl : j = i + 1 := by omega
            rw [hg]
            exact Nat.le_trans HII.out.2.2.2.2.size HH1.out
      clear ho2 hb2 hg2 HII HH1 HH2 HH3 HO1 HLE
      go_wp2_with fail
      go_roundw
      case rel => exact ⟨i + 1, ds ++ [d'], d', k2, by omega, rfl, by go_num, HK2.out, HE.out.2.2.2.2.2, HE.out.1, HE.out.2.1, HE.out.2.2.1, HE.out.2.2.2.1, HE.out.2.2.2.2.1⟩
      case measure => simp [intOf]; exact HM.out
    · have hk4 : ¬ (4 : Int) < (kk : Int) := by
        have h1 : 2 ^ (J - i) ≤ 2 ^ 2 := Nat.pow_le_pow_right (by omega) (by omega)
        have h2 := hkk.out
        omega
      obtain rfl : i = J - 2 := by omega
      have HE := hid hI.out
      clear hI hkk hdd
      go_wp2_with fail
      go_ret
      exact ⟨_, rfl, ds, HE.out⟩

end Go.Proofs.YtfppkjpgihnibaaGreatDoor

namespace Go.Proofs.YtfppkjpgihnibaaGreatDoor
open Go.RowKit

end Go.Proofs.YtfppkjpgihnibaaGreatDoor

namespace Go.Proofs.YtfppkjpgihnibaaGreatDoor
open Go.RowKit

theorem dig_pld {q : Nat} (h3 : 3 ≤ q) (h4 : q ≤ 2147483647) (n : Nat) {D : List Int} (h : Dig D) : ∀ k, Dig (pld q n k D)
  | 0 => h
  | _ + 1 => dig_digl h3 h4 _ _

set_option maxRecDepth 100000 in
set_option maxHeartbeats 1000000 in
theorem drawplaces_any (N0 q n c d b H a : Nat) (r s : Int) (D : List Int) (w : World) (h3 : 3 ≤ q) (h4 : q ≤ 2147483647) (hP : PCh N0 q n w c D) (hD : Dig D) (hdm : ∀ W, Below N0 w W → DomAt W d b ((2 * H : Nat) : Int) r s) (hH1 : 1 ≤ H) (hH2 : H ≤ 65536) (ha : a ≤ 1000) :
    Calls Tryz.prog 57 #[.pointer (some ⟨c, 0, none⟩), .pointer (some ⟨d, 0, none⟩), .int .i64 (a : Int)] w fun e w' =>
      e = .returned (.slice (some ⟨w.heap.size, 0, none⟩) a a) ∧ ArrI w' w.heap.size 3 a (plz q n H D) ∧ PCh N0 q n w' c (pld q n a D) ∧ w.grownBy w' (some c) := by
  have hcl := hP.lt
  have hcg := hP.ge
  have HP := hid hP
  have HDD := hid hD
  obtain ⟨NN, hNN⟩ : ∃ NN, NN = 2 * H := ⟨_, rfl⟩
  have HSZ : Hid (∀ W, w.grownBy W (some c) → Calls Tryz.prog 36 #[.pointer (some ⟨d, 0, none⟩)] W fun e w' => e = .returned (.int .i64 (NN : Int)) ∧ w' = W) := fun W hg => by
    have := size_any d b _ r s W (hdm W (gb_to hg hcg (by omega)))
    rwa [← hNN] at this
  have q0 : (NN : Int) / 2 = (H : Int) := by omega
  have q1 : (NN : Int).tdiv 2 = (H : Int) := by rw [hNN]; rw [Int.tdiv_eq_ediv_of_nonneg (by omega)]; omega
  have q2 : IntKind.i64.wrap (H : Int) = (H : Int) := by rw [IntKind.wrap_i64]; omega
  have q3 : 0 ≤ (NN : Int) := by omega
  obtain ⟨G, hG⟩ : ∃ G : Nat → Int, G = plz q n H D := ⟨_, rfl⟩
  rw [← hG]
  have HPL : Hid (∀ (W : World) (k : Nat), PCh N0 q n W c (pld q n k D) → Calls Tryz.prog 108 #[.pointer (some ⟨c, 0, none⟩), .int .i64 (H : Int)] W fun e w' => e = .returned (.int .i64 (G k)) ∧ PCh N0 q n w' c (pld q n (k + 1) D) ∧ W.grownBy w' (some c)) := fun W k h => by
    have := cplace_any N0 q n c (H : Int) _ W h (dig_pld h3 h4 n hD k) (by omega) (by omega)
    rw [hG]
    exact this
  have hmk2 := fun w => run_make_row' (P := Tryz.prog) 22 3 (.int .i64 0) 8 Tryz.underlying22 Tryz.infoInt rfl .i64 .i64 a (by omega) (by omega) w
  clear hP hD hdm hNN hG
  go_enter Tryz.func57, Tryz.ntmps57
  go_wp2_with fail
  go_loopw [13] (fun iv wr => ∃ k : Nat, k ≤ a ∧ iv = .int .i64 k ∧ Hid (ArrI wr w.heap.size 3 a (fll G (fun _ => 0) k) ∧ PCh N0 q n wr c (pld q n k D) ∧ w.grownBy wr (some c))) (fun iv _ => a - (intOf iv).toNat)
  case atStart =>
    have hb := (Below.refl w.heap.size w).alloc (Nat.le_refl _) (.cells (madeCells #[.int .i64 0] a) 3)
    exact ⟨0, by omega, rfl, by rw [fll_zero]; exact World.rowIs_made _ _ _ _, HP.out.below hb, gb_below hb⟩
  case round =>
    obtain ⟨k, hk, rfl, hI⟩ := hrel
    by_cases hlt : k < a
    · have hlt2 : (k : Int) < (a : Int) := by omega
      have hks : IntKind.i64.wrap ((k : Int) + 1) = (k : Int) + 1 := by rw [IntKind.wrap_i64]; omega
      have HX := hid (HSZ.out wr hI.out.2.2)
      have HY := hid (HPL.out wr k hI.out.2.1)
      go_wp2_with fail
      refine HX.out.mono ?_
      rintro e w1 ⟨rfl, rfl⟩
      go_wp2_with fail
      refine HY.out.mono ?_
      rintro e w2 ⟨rfl, hp2, hg2⟩
      have hA2 : ArrI w2 w.heap.size 3 a (fll G (fun _ => 0) k) := hI.out.1.block (gb_blk hg2 hI.out.1.lt (by omega))
      have HE : Hid (ArrI (w2.setCell ⟨w.heap.size, k, none⟩ (.int .i64 (G k))) w.heap.size 3 a (fll G (fun _ => 0) (k + 1)) ∧ PCh N0 q n (w2.setCell ⟨w.heap.size, k, none⟩ (.int .i64 (G k))) c (pld q n (k + 1) D) ∧ w.grownBy (w2.setCell ⟨w.heap.size, k, none⟩ (.int .i64 (G k))) (some c)) := by
        have hgg := gb_far (gb_trans hI.out.2.2 hg2) (Nat.le_refl _) k (.int .i64 (G k))
        have hoth : ∀ x, x ≠ w.heap.size → (w2.setCell ⟨w.heap.size, k, none⟩ (.int .i64 (G k))).heap[x]? = w2.heap[x]? := fun x hx => Below.heap_setCell _ _ _ _ (by show x ≠ w.heap.size; exact hx)
        exact ⟨hA2.next, hp2.blocks (hoth _ (by omega)) (fun x hx => hoth x (by omega)), hgg⟩
      have c1 := hA2.cell hlt
      have y1 := hA2.frozen k
      clear hA2 hp2 hg2 hI HX HY
      generalize G k = y at *
      generalize fll G (fun _ => 0) k k = y0 at *
      go_wp2_with fail
      go_roundw
      case rel => exact ⟨k + 1, by omega, by go_num, HE.out⟩
      case measure => simp [intOf]; omega
    · obtain rfl : k = a := by omega
      have hlt2 : ¬ (k : Int) < (k : Int) := by omega
      have HE : Hid (ArrI wr w.heap.size 3 k G ∧ PCh N0 q n wr c (pld q n k D) ∧ w.grownBy wr (some c)) := ⟨hI.out.1.congr (fun j hj => fll_all hj), hI.out.2⟩
      clear hI
      go_wp2_with fail
      go_ret
      exact ⟨rfl, HE.out⟩

end Go.Proofs.YtfppkjpgihnibaaGreatDoor

namespace Go.Proofs.YtfppkjpgihnibaaGreatDoor
open Go.RowKit

end Go.Proofs.YtfppkjpgihnibaaGreatDoor

namespace Go.Proofs.YtfppkjpgihnibaaGreatDoor
open Go.RowKit

/-- a function that tells what a word has at some places -/
def KnW (W : World) (v : Value) (P : Nat → Prop) (f : Nat → Int) : Prop := ∃ F c1 c2, v = .func (.func F) #[] #[.pointer (some ⟨c1, 0, none⟩), .pointer (some ⟨c2, 0, none⟩)] ∧ (∀ (args : Array Value) (w1 : World), (callFunc F args).run Tryz.prog w1 = .ok (.enter F args) w1) ∧
  ∀ (W' : World) (place : Nat), Below W.heap.size W W' → P place → Calls Tryz.prog F #[.int .i64 (place : Int), .pointer (some ⟨c1, 0, none⟩), .pointer (some ⟨c2, 0, none⟩)] W' fun e w' => e = .returned (.int .i64 (f place)) ∧ Below W'.heap.size W' w'
theorem KnW.step {W W' : World} {v : Value} {P : Nat → Prop} {f : Nat → Int} (h : KnW W v P f) (e : Below W.heap.size W W') : KnW W' v P f := by
  obtain ⟨F, c1, c2, h1, h2, h3⟩ := h
  exact ⟨F, c1, c2, h1, h2, fun W2 place hb hp => h3 W2 place (e.trans (hb.mono e.size)) hp⟩

theorem onc_len : ∀ ps : List Int, (onc ps).length ≤ ps.length
  | [] => by simp [onc]
  | x :: ps => by
    have h := onc_len ps
    have hi : ∀ (y : Int) (os : List Int), (insz y os).length ≤ os.length + 1 := fun y os => by
      induction os with
      | nil => simp [insz]
      | cons z os ih =>
        unfold insz
        split
        · simp
        · split
          · simp
          · simp; omega
    have := hi x (onc ps)
    show (insz x (onc ps)).length ≤ (x :: ps).length
    rw [List.length_cons]
    omega
theorem mdz_len (l : List Int) (n : Nat) : (mdz l n).length ≤ l.length := by
  have := onc_len (l.map (· % (n : Int)))
  rw [List.length_map] at this
  exact this

end Go.Proofs.YtfppkjpgihnibaaGreatDoor
