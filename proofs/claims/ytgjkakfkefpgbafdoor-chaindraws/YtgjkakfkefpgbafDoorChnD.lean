/- attestlaw3.done: numbers drawn at once. -/
import Derived.Test.YtgjkakfkefpgbafDoorChnC
namespace Go.Proofs.YtgjkakfkefpgbafDoor
open Go.RowKit

/-- a list that lies below a bound, in a block of numbers -/
def NumB (lo : Nat) (w : World) (a : Option Addr) (c : Nat) (l : List Int) : Prop := Lst lo w a c l ∧ (0 < l.length → ∃ g o cs f, a = some ⟨g, o, none⟩ ∧ w.heap[g]? = some (.cells cs 3 f))
theorem NumL.numB {w : World} {a : Option Addr} {c : Nat} {l : List Int} (h : NumL w a c l) : NumB w.heap.size w a c l := h
theorem NumB.blk {lo : Nat} {w w' : World} {a : Option Addr} {c : Nat} {l : List Int} (h : NumB lo w a c l) (e : ∀ (g : Nat) (cs : Array Value) (f : Nat × Nat), g < lo → w.heap[g]? = some (.cells cs 3 f) → w'.heap[g]? = w.heap[g]?) : NumB lo w' a c l := by
  obtain ⟨hl, hn⟩ := h
  refine ⟨⟨fun k hk => ?_, hl.room, hl.nil⟩, fun h0 => ?_⟩
  · obtain ⟨b, o, rfl, h2, h3⟩ := hl.row k hk
    obtain ⟨g', o', cs, f, e1, hb⟩ := hn (by omega)
    cases e1
    exact ⟨b, o, rfl, h2, (World.cell?_of_block (w := w) (a := ⟨b, o + k, none⟩) (e b cs f h2 hb)).trans h3⟩
  · obtain ⟨g, o, cs, f, rfl, hb⟩ := hn h0
    obtain ⟨b, o', e1, h2, _⟩ := hl.row 0 h0
    cases e1
    exact ⟨_, _, cs, f, rfl, (e _ cs f h2 hb).trans hb⟩
theorem NumB.other {lo : Nat} {w w' : World} {a : Option Addr} {c s : Nat} {l : List Int} (h : NumB lo w a c l) (hlo : lo ≤ w.heap.size) (e : w.grownBy w' (some s)) (hs : ∀ (cs : Array Value) (f : Nat × Nat), w.heap[s]? ≠ some (.cells cs 3 f)) : NumB lo w' a c l :=
  h.blk (fun g cs f hg hb => gb_blk e (by omega) (fun he => hs cs f (by rw [← he]; exact hb)))
theorem pair_to {g h m : Nat} {w w1 w2 : World} (x : Pair g h w w1) (e : Below m w1 w2) (hm : w.heap.size ≤ m) : Pair g h w w2 :=
  ⟨e.os.trans x.os, e.tape.trans x.tape, e.output.trans x.output, Nat.le_trans x.size e.size, fun k hk h1 h2 => (e.block k (by omega)).trans (x.block k hk h1 h2)⟩

theorem drs_succ (q n k : Nat) (D : List Int) : drs q n (k + 1) D = drs q n k D ++ [zat (drw q n (k + 1) D) 0] := ls_succ _ _
theorem drs_len (q n k : Nat) (D : List Int) : (drs q n k D).length = k := ls_len _ _

/-- what stands in the loop -/
structure DnL (q n : Nat) (PC : World → Nat → List Int → Prop) (c r N : Nat) (D : List Int) (a : Option Addr) (cp m : Nat) (w : World) (k : Nat) (yv : Value) (wr : World) : Prop where
  own : wr.ownsRow m 3 1 yv (drs q n k D).length ((drs q n k D).map (Value.int .i64))
  pc : PC wr c (drw q n N D)
  rc : RCh q wr r (drw q n k D)
  num : NumB m wr a cp (drs q n N D)
  pair : Pair c r w wr
  size : m ≤ wr.heap.size
theorem own_ne {w : World} {base n : Nat} {v : Value} {xs : List Value} {r : Nat} (h : w.ownsRow base 3 1 v n xs) (hs : ∀ (cs : Array Value) (f : Nat × Nat), w.heap[r]? ≠ some (.cells cs 3 f)) : v.ownBlock = none ∨ v.ownBlock ≠ some r := by
  rcases h.2 with ⟨rfl, _⟩ | ⟨g, cap, cur, rfl, _, hb, _⟩
  · exact .inl rfl
  · refine .inr (fun e => ?_)
    injection e with e
    exact hs cur (0, 0) (by rw [← e]; exact hb)
/-- the reference draws one -/
theorem DnL.drawn {N0 q n : Nat} {PC : World → Nat → List Int → Prop} (H : ChainAs N0 q n PC) {c r N : Nat} {D : List Int} {a : Option Addr} {cp m : Nat} {w : World} {k : Nat} {yv : Value} {wr w2 : World} (h : DnL q n PC c r N D a cp m w k yv wr) (hN : N0 ≤ r) (hcr : c ≠ r) (hg : wr.grownBy w2 (some r)) :
    w2.ownsRow m 3 1 yv (drs q n k D).length ((drs q n k D).map (Value.int .i64)) ∧ PC w2 c (drw q n N D) ∧ NumB m w2 a cp (drs q n N D) ∧ Pair c r w w2 ∧ (∀ b, yv.ownBlock = some b → b < wr.heap.size) ∧ yv.ownBlock ≠ some r :=
  ⟨h.own.kept hg (own_ne h.own h.rc.not), H.other h.pc hg hcr hN, h.num.other h.size hg h.rc.not, h.pair.trans (pair_2 hg), fun b hb => (h.own.lt b hb).2, fun e => by
    rcases own_ne h.own h.rc.not with g | g
    · rw [g] at e; cases e
    · exact g e⟩

set_option maxRecDepth 100000 in
set_option maxHeartbeats 1000000 in
theorem done_draws {N0 q n : Nat} {PC : World → Nat → List Int → Prop} (H : ChainAs N0 q n PC) (h5 : 5 ≤ q) (h4 : q ≤ 2147483647) (hpn : Spo.PowIs q n) (c r N : Nat) (v : Value) (D : List Int) (w : World) (hN : N0 ≤ r) (hP : PC w c D) (hR : RCh q w r D) (hD : Dig D) (hN1 : 1 ≤ N) (hN2 : N ≤ 65536) :
    Calls Tryd.prog 8 #[.pointer (some ⟨c, 0, none⟩), .pointer (some ⟨r, 0, none⟩), .agg #[.int .i64 3, .int .i64 (N : Int), v]] w fun e w' => e = .returned (.bool true) ∧ DoneR q PC c r w w' := by
  obtain ⟨i0, hi, hz0, hz1, hz2⟩ := info_parts Tryd.infoInt
  have HH := hid H
  have HPN := hid hpn
  have HD := hid hD
  have HB := hid (dnb_start H 3 (N : Int) v hP hR)
  obtain ⟨W0, hW0⟩ : ∃ W0, W0 = w.alloc (.cells #[.int .i64 3, .int .i64 (N : Int), v] 34) := ⟨_, rfl⟩
  rw [← hW0] at HB
  have d0 := trio_c0 HB.out.op
  have d1 := trio_c1 HB.out.op
  have HDR := hid (H.draws c N D W0 HB.out.pc hD hN1 hN2)
  have t1 : ¬ (N : Int) > 65536 := by omega
  clear H hpn hD hP hR
  go_enter Tryd.func8, Tryd.ntmps8
  rw [hW0] at d0 d1
  go_wp2_with fail
  rw [← hW0]
  clear hW0 d0 d1 t1
  refine HDR.out.mono ?_
  rintro e w1 ⟨a, cp, rfl, hnl, hP1, hg1⟩
  have H1 := hid (HB.out.prog HH.out hP1 hg1)
  have HNE := hid HB.out.ne.1
  have HS : Hid (c < w1.heap.size ∧ r < w1.heap.size ∧ w.heap.size ≤ w1.heap.size) := ⟨HH.out.lt hP1, H1.out.2.1.lt, H1.out.2.2.2.size⟩
  have HL0 : Hid (DnL q n PC c r N D a cp w1.heap.size w 0 (.slice none 0 0) w1) := ⟨World.ownsRow_nil _ _ _ _, H1.out.1, H1.out.2.1, hnl.numB, H1.out.2.2.2, Nat.le_refl _⟩
  clear hP1 hg1 HDR HB hnl H1
  go_wp2_with fail
  go_loopw [12, 13] (fun yv iv wr => ∃ k : Nat, k ≤ N ∧ iv = .int .i64 k ∧ Hid (DnL q n PC c r N D a cp w1.heap.size w k yv wr))
    (fun _ iv _ => N - (intOf iv).toNat)
  case atStart => exact ⟨0, by omega, rfl, HL0⟩
  case round =>
    obtain ⟨k, hk, rfl, hC⟩ := hrel
    by_cases hlt : k < N
    · have hlt2 : (k : Int) < (N : Int) := by omega
      have hks : IntKind.i64.wrap ((k : Int) + 1) = (k : Int) + 1 := by rw [IntKind.wrap_i64]; omega
      have HRD := hid (rdraw_new q n r (drw q n k D) wr h5 h4 HPN.out (by have := (dig_drw (by omega) h4 n HD.out k).1; omega) (dig_drw (by omega) h4 n HD.out k).2 hC.out.rc)
      obtain ⟨x, hx⟩ : ∃ x, x = zat (digl q n (4 :: drw q n k D)) 0 := ⟨_, rfl⟩
      rw [← hx] at HRD
      have HX : Hid (drs q n (k + 1) D = drs q n k D ++ [x]) := by unfold Hid; rw [hx]; exact drs_succ _ _ _ _
      clear hx
      go_wp2_with fail
      refine HRD.out.mono ?_
      rintro e w2 ⟨rfl, hR2, hg2⟩
      have H2 := hid (hC.out.drawn HH.out hN HNE.out hg2)
      have HR2 := hid hR2
      have hs2 : w1.heap.size ≤ w2.heap.size := by have := hC.out.size; have := hg2.size; omega
      have hown := H2.out.1
      have HLN := hid (drs_len q n k D)
      clear HRD hR2 hg2 hC
      generalize drs q n k D = Z at *
      have hZ : Z.length ≤ 65536 := by rw [HLN.out]; omega
      go_wp2_with (at_builtin; refine wpList_append_own _ rfl _ _ 22 rfl w1.heap.size 3 i0 (.int .i64 0) 1 8 Tryd.underlying22 hi hz0 hz1 hz2 rfl (by decide) _ _ _ rfl (hown.alloc _) ⟨w2.heap.size, 0, none⟩ 1 1 [.int .i64 x] rfl rfl ?c1 ?c2 ?c3 ?c4 ?c5 ?_)
      case c1 =>
        intro j u hj
        match j, hj with
        | 0, hj => simp at hj; subst hj; simp [Addr.add]
      case c2 => intro u hu; simp at hu; subst hu; rfl
      case c3 => unfold maxLen; omega
      case c4 => omega
      case c5 => simp; omega
      intro v' w5 hown2 hgrow _
      have hown3 := owns_succ hown2
      have hba : Below w2.heap.size w2 (w2.alloc (.cells #[.int .i64 x] 3)) := (Below.refl _ _).alloc (Nat.le_refl _) _
      have hB : Below w1.heap.size w2 w5 := ((Below.refl _ _).alloc hs2 _).grown hgrow (by simp; omega) (fun b hb => (hown.lt b hb).1)
      have hg5 : w2.grownBy w5 _ := ⟨hgrow.os, hgrow.tape, hgrow.output, by have := hgrow.size; simp at this; omega, fun b hb hne => (hgrow.block b (by simp; omega) hne).trans (hba.block b hb)⟩
      have HL : Hid (DnL q n PC c r N D a cp w1.heap.size w (k + 1) v' w5) := by
        refine ⟨by rw [HX.out]; exact hown3, HH.out.upto H2.out.2.1 hB HS.out.1, HR2.out.own hg5 (fun e => H2.out.2.2.2.2.2 e.symm) (fun b hb => H2.out.2.2.2.2.1 b hb), H2.out.2.2.1.blk (fun g cs f hg _ => hB.block g hg), pair_to H2.out.2.2.2.1 hB HS.out.2.2, by have := hB.size; omega⟩
      clear hown hown2 hown3 hgrow hba hB hg5 H2 HR2
      go_wp2_with fail
      go_roundw
      case rel => exact ⟨k + 1, by omega, by go_num, HL⟩
      case measure => simp [intOf]; omega
    · obtain rfl : k = N := by omega
      have hlt2 : ¬ (k : Int) < (k : Int) := by omega
      obtain ⟨av, cv, hv, hlv⟩ := lst_of_owns hC.out.own
      rw [drs_len] at hv
      subst hv
      have hls := drs_len q n k D
      have HIN : Hid (Calls Tryd.prog 10 #[.slice a k cp, .slice av k cv] wr fun e w' => e = .returned (.bool true) ∧ ∃ nd, w' = wr.drewN nd) := by
        have := ints_same w1.heap.size wr.heap.size (drs q n k D) a av cp cv wr hC.out.num.1.row hlv.row (by omega)
        rw [hls] at this
        exact this
      clear hls hlv
      go_wp2_with fail
      refine HIN.out.mono ?_
      rintro e w5 ⟨rfl, nd, rfl⟩
      clear HIN
      go_wp2_with fail
      go_ret
      have hbd := below_drewN (Below.refl wr.heap.size wr) nd
      exact ⟨rfl, _, dig_drw (by omega) h4 n HD.out k, HH.out.below hC.out.pc hbd, hC.out.rc.below hbd, hC.out.pair.trans (pair_b hbd)⟩

set_option maxRecDepth 100000 in
set_option maxHeartbeats 1000000 in
theorem done_drawsNo {N0 q n : Nat} {PC : World → Nat → List Int → Prop} (H : ChainAs N0 q n PC) (c r : Nat) (num : Int) (v : Value) (D : List Int) (w : World) (hP : PC w c D) (hR : RCh q w r D) (hD : Dig D) (hN : num < 1 ∨ 65536 < num) :
    Calls Tryd.prog 8 #[.pointer (some ⟨c, 0, none⟩), .pointer (some ⟨r, 0, none⟩), .agg #[.int .i64 3, .int .i64 num, v]] w fun e w' => e = .returned (.bool true) ∧ DoneR q PC c r w w' := by
  have HH := hid H
  have HD := hid hD
  have HB := hid (dnb_start H 3 num v hP hR)
  obtain ⟨W0, hW0⟩ : ∃ W0, W0 = w.alloc (.cells #[.int .i64 3, .int .i64 num, v] 34) := ⟨_, rfl⟩
  rw [← hW0] at HB
  have d0 := trio_c0 HB.out.op
  have d1 := trio_c1 HB.out.op
  have HDR := hid (H.drawsNo c num D W0 HB.out.pc hN)
  have HCS : Hid (¬ num > 65536 ∧ ¬ (0 : Int) < num ∨ num > 65536) := by unfold Hid; omega
  clear H hD hP hR hN
  go_enter Tryd.func8, Tryd.ntmps8
  rw [hW0] at d0 d1
  rcases HCS.out with ⟨hn, hn2⟩ | hn
  all_goals
    clear HCS
    go_wp2_with fail
    rw [← hW0]
    clear hW0 d0 d1
    refine HDR.out.mono ?_
    rintro e w1 ⟨a, cp, rfl, hb1⟩
    have H1 := hid (HB.out.keep HH.out hb1)
    have HIN := hid (ints_same w1.heap.size w1.heap.size [] a none cp 0 w1 (fun k hk => by simp at hk) (fun k hk => by simp at hk) (by simp))
    clear hb1 HDR HB
    go_wp2_with fail
    go_loopw [12, 13] (fun yv iv wr => yv = .slice none 0 0 ∧ iv = .int .i64 0 ∧ wr = w1) (fun _ _ _ => 0)
    case atStart => exact ⟨rfl, rfl, rfl⟩
    case round =>
      obtain ⟨rfl, rfl, rfl⟩ := hrel
      go_wp2_with fail
      refine HIN.out.mono ?_
      rintro e w5 ⟨rfl, nd, rfl⟩
      clear HIN
      go_wp2_with fail
      go_ret
      have hbd := below_drewN (Below.refl wr.heap.size wr) nd
      exact ⟨rfl, D, HD.out, HH.out.below H1.out.pc hbd, H1.out.rc.below hbd, H1.out.pair.trans (pair_b hbd)⟩

end Go.Proofs.YtgjkakfkefpgbafDoor
