/- Package whole: lists of numbers read. -/
import Derived.Test.YtcajofdmadpmoaaWbC
namespace Go.Proofs.Ytcajofdmadpmoaa
open Go.RowKit

/-- how the reading of anything ends -/
def ReE {α : Type} (P : World → Value → α → Prop) (R : Nat) (w : World) (o : Option (α × List Nat)) (e : Ending) (w' : World) : Prop := w.grownBy w' (some R) ∧ match o with
  | some (x, r) => ∃ v, e = .returned v ∧ P w' v x ∧ RdW w' R r
  | none => e = pncW
theorem sli_of_owns {w : World} {base : Nat} {v : Value} {zs : List Int} (h : w.ownsRow base 3 1 v zs.length (zs.map (Value.int .i64))) : SlI w zs v := by
  obtain ⟨a, c, rfl, hl⟩ := lst_of_owns h
  refine ⟨a, c, rfl, hl, fun h0 => ?_⟩
  rcases h.2 with ⟨e, h1⟩ | ⟨g, cap, cur, e, _, hg, _⟩
  · omega
  · injection e with e1 _ _
    exact ⟨g, 0, cur, (0, 0), e1, hg⟩
/-- an own block that turns leaves the reader -/
theorem RdW.own {w w' : World} {R : Nat} {bs : List Nat} {ob : Option Nat} (h : RdW w R bs) (e : w.grownBy w' ob) (ho : ∀ k, ob = some k → R < k) : RdW w' R bs :=
  h.blocks (fun b hb => e.block b (by have := h.lt; omega) (fun e1 => by have := ho b e1.symm; omega))
/-- what has grown and then an own block that has turned -/
theorem gb_own {w w1 w2 : World} {R : Nat} {ob : Option Nat} (h : w.grownBy w1 (some R)) (e : w1.grownBy w2 ob) (ho : ∀ k, ob = some k → w.heap.size ≤ k) : w.grownBy w2 (some R) :=
  ⟨e.os.trans h.os, e.tape.trans h.tape, e.output.trans h.output, Nat.le_trans h.size e.size, fun b hb hr => (e.block b (by have := h.size; omega) (fun e1 => by have := ho b e1.symm; omega)).trans (h.block b hb hr)⟩
theorem rdL_num {α : Type} (p : Rdr α) {bs r : List Nat} {n : Int} (h : rdI bs = some (n, r)) : rdL p bs = if 0 ≤ n ∧ n ≤ (r.length : Int) then rdN p r n.toNat else none := by
  unfold rdL rdC
  rw [h]
  by_cases hc : 0 ≤ n ∧ n ≤ (r.length : Int)
  · simp only [if_pos hc]
  · simp only [if_neg hc]
theorem rdL_end {α : Type} (p : Rdr α) {bs : List Nat} (h : rdI bs = none) : rdL p bs = none := by
  unfold rdL rdC
  rw [h]
theorem rdI_le {w : World} {R : Nat} {bs r : List Nat} {n : Int} (h : RdW w R bs) (hc : rdI bs = some (n, r)) : r.length ≤ 1048576 := by
  obtain ⟨_, _, _, _, hb, hl⟩ := h
  have := rdI_back bs n r hb hc
  rw [this, List.length_append] at hl
  omega
/-- the world behind a list laid -/
theorem gb_alloc {w w1 : World} {R : Nat} (h : w.grownBy w1 (some R)) (o : Obj) : w.grownBy (w1.alloc o) (some R) := gb_trans h (gb_below ((Below.refl _ _).alloc (Nat.le_refl _) o))
/-- rows of one's own are no reader -/
theorem own_not {w : World} {base R n : Nat} {bs : List Nat} {v : Value} {xs : List Value} (h : w.ownsRow base 3 1 v n xs) (hR : RdW w R bs) : v.ownBlock = none ∨ v.ownBlock ≠ some R := by
  rcases h.2 with ⟨rfl, _⟩ | ⟨g, cap, cur, rfl, _, hg, _⟩
  · exact .inl rfl
  · refine .inr (fun e => ?_)
    injection e with e
    subst e
    obtain ⟨_, _, h1, _⟩ := hR
    rw [h1] at hg
    injection hg with hg
    injection hg with _ h3 _
    exact absurd h3 (by decide)

set_option maxRecDepth 100000 in
set_option maxHeartbeats 4000000 in
theorem readInts_any (R : Nat) (bs : List Nat) (w : World) (h : RdW w R bs) : Calls Try.prog 20 #[.pointer (some ⟨R, 0, none⟩), .func (.func 16) #[.pointer (some ⟨R, 0, none⟩)] #[]] w (ReE (fun w v l => SlI w l v) R w (rdL rdI bs)) := by
  obtain ⟨i0, hi, hz0, hz1, hz2⟩ := info_parts Try.infoInt
  have HN := hid (number_any R bs w h)
  have hRl := h.lt
  cases hc : rdI bs with
  | none =>
    rw [rdL_end rdI hc]
    rw [hc] at HN
    clear h hc
    go_enter Try.func20, Try.ntmps20
    go_wp2_with fail
    refine HN.out.mono ?_
    rintro e w1 ⟨hg1, rfl⟩
    exact ⟨rfl, hg1, rfl⟩
  | some nr =>
    obtain ⟨n, r⟩ := nr
    rw [rdL_num rdI hc]
    rw [hc] at HN
    have hrb : r.length ≤ 1048576 := rdI_le h hc
    clear h hc
    by_cases hok : 0 ≤ n ∧ n ≤ (r.length : Int)
    · rw [if_pos hok]
      obtain ⟨k, rfl⟩ := Int.eq_ofNat_of_zero_le hok.1
      have hkr : k ≤ r.length := by have := hok.2; omega
      have hk2 : (k : Int) ≤ (r.length : Int) := by omega
      have hk20 : k ≤ 1048576 := by omega
      rw [Int.toNat_natCast]
      clear hok
      obtain ⟨T, hT⟩ : ∃ T, T = rdN rdI r k := ⟨_, rfl⟩
      rw [← hT]
      have HT := hid hT
      clear hT
      go_enter Try.func20, Try.ntmps20
      go_wp2_with fail
      refine HN.out.mono ?_
      rintro e w1 ⟨hg1, rfl, h1⟩
      have H1 := hid h1
      have HG1 := hid hg1
      obtain ⟨a0, c0, h10, _⟩ := h1
      obtain ⟨nr, hnr⟩ : ∃ nr, nr = r.length := ⟨_, rfl⟩
      rw [← hnr] at hk2 h10
      have x0 : w1.cell? ⟨R, 0, none⟩ = some (.slice a0 nr c0) := by simp [World.cell?, h10]
      have HM := hid (must_yes w1)
      clear hg1 HN h10 hnr
      go_wp2_with fail
      refine HM.out.mono ?_
      rintro e w2 ⟨rfl, hw⟩
      have hwx := hw.symm
      subst hwx
      clear hw HM x0 hk2
      go_wp2_with fail
      go_loopw [6, 22] (fun lv0 iv wr => ∃ (i : Nat) (lv : Value), i ≤ k ∧ iv = .int .i64 (i : Int) ∧ lv = lv0 ∧ Hid (∃ (l : List Int) (r' : List Nat), rdN rdI r i = some (l, r') ∧ l.length = i ∧ wr.ownsRow w.heap.size 3 1 lv l.length (l.map (Value.int .i64)) ∧ RdW wr R r' ∧ w.grownBy wr (some R))) (fun _ iv _ => k - (intOf iv).toNat)
      case atStart => exact ⟨0, _, Nat.zero_le _, rfl, rfl, [], r, rfl, rfl, World.ownsRow_nil _ _ _ _, H1.out, HG1.out⟩
      case round =>
        obtain ⟨i, lv, hi', rfl, rfl, hI⟩ := hrel
        obtain ⟨l, r', e1, e2, e3, e4, e5⟩ := hI.out
        by_cases hlt : i < k
        · have hlt2 : (i : Int) < (k : Int) := by omega
          have hks : IntKind.i64.wrap ((i : Int) + 1) = (i : Int) + 1 := by rw [IntKind.wrap_i64]; omega
          have HO := hid (number_any R r' wr e4)
          cases hp : rdI r' with
          | none =>
            rw [hp] at HO
            have HE : Hid (T = none) := by
              unfold Hid
              rw [HT.out]
              refine rdN_none (i := i + 1) ?_ k (by omega)
              simp only [rdN, e1, hp]
            have HW := hid e5
            clear hI e1 e3 e4 e5 hp
            go_wp2_with fail
            refine HO.out.mono ?_
            rintro e w3 ⟨hg3, rfl⟩
            refine ⟨rfl, gb_trans HW.out hg3, ?_⟩
            rw [HE.out]
            rfl
          | some xr =>
            obtain ⟨x, r2⟩ := xr
            rw [hp] at HO
            have HS : Hid (rdN rdI r (i + 1) = some (l ++ [x], r2) ∧ l.length = i) := by
              refine ⟨?_, e2⟩
              simp only [rdN, e1, hp]
            have HW := hid e5
            have HOW := hid e3
            have HR4 := hid e4
            clear hI e1 e3 e4 e5 hp
            go_wp2_with fail
            refine HO.out.mono ?_
            rintro e w3 ⟨hg3, rfl, h3⟩
            have H3 := hid h3
            have HG3 := hid (gb_trans HW.out hg3)
            have hown := HOW.out.kept hg3 (own_not HOW.out HR4.out)
            have HOX := hid (hown.alloc (.cells #[.int .i64 x] 3))
            have HLE := hid HS.out.2
            clear h3 hg3 HO hown
            go_wp2_with (at_builtin; refine wpList_append_own _ rfl _ _ 24 rfl w.heap.size 3 i0 (.int .i64 0) 1 8 Try.underlying24 hi hz0 hz1 hz2 rfl (by decide) _ _ _ rfl HOX.out ⟨w3.heap.size, 0, none⟩ 1 1 [.int .i64 x] rfl rfl ?c1 ?c2 ?c3 ?c4 ?c5 ?_)
            case c1 =>
              intro j u hj
              match j, hj with
              | 0, hj => simp at hj; subst hj; simp [Addr.add]
            case c2 => intro u hu; simp at hu; subst hu; rfl
            case c3 => rw [HLE.out]; unfold maxLen; omega
            case c4 => rw [HLE.out]; omega
            case c5 => have := HG3.out.size; simp; omega
            intro v' w5 hown2 hgrow _
            have hown3 := owns_succ (by rw [HLE.out]; exact hown2)
            have holt : ∀ k', lv.ownBlock = some k' → w.heap.size ≤ k' := fun k' hk' => (HOX.out.lt k' hk').1
            have HE : Hid (∃ (l : List Int) (r' : List Nat), rdN rdI r (i + 1) = some (l, r') ∧ l.length = i + 1 ∧ w5.ownsRow w.heap.size 3 1 v' l.length (l.map (Value.int .i64)) ∧ RdW w5 R r' ∧ w.grownBy w5 (some R)) := ⟨l ++ [x], r2, HS.out.1, by rw [List.length_append, HS.out.2]; rfl, hown3, (H3.out.below ((Below.refl _ _).alloc (Nat.le_refl _) _)).own hgrow (fun k' hk' => by have := holt k' hk'; omega), gb_own (gb_alloc HG3.out _) hgrow holt⟩
            clear hown2 hown3 hgrow holt HOX HR4 HOW HW HS
            go_wp2_with fail
            go_roundw
            case rel => exact ⟨i + 1, _, by omega, by go_num, rfl, HE⟩
            case measure => simp [intOf]; omega
        · obtain rfl : i = k := by omega
          have hlt2 : ¬ (i : Int) < (i : Int) := by omega
          have HE : Hid (∃ l r', T = some (l, r') ∧ ((fun w v l => SlI w l v)) wr lv l ∧ RdW wr R r' ∧ w.grownBy wr (some R)) := ⟨l, r', by rw [HT.out]; exact e1, sli_of_owns e3, e4, e5⟩
          clear hI e1 e2 e3 e4 e5
          go_wp2_with fail
          go_ret
          obtain ⟨l, r', k1, k2, k3, k4⟩ := HE.out
          refine ⟨k4, ?_⟩
          rw [k1]
          exact ⟨_, rfl, k2, k3⟩
    · rw [if_neg hok]
      have hd : (decide (0 ≤ n) && decide (n ≤ (r.length : Int))) = false := by
        rw [Bool.and_eq_false_iff, decide_eq_false_iff_not, decide_eq_false_iff_not]
        omega
      have HM := hid (fun W => must_no W)
      by_cases h0 : 0 ≤ n
      · have hd2 : decide (n ≤ (r.length : Int)) = false := decide_eq_false (fun e => hok ⟨h0, e⟩)
        clear hok hd
        go_enter Try.func20, Try.ntmps20
        go_wp2_with fail
        refine HN.out.mono ?_
        rintro e w1 ⟨hg1, rfl, h1⟩
        have HG1 := hid hg1
        obtain ⟨a0, c0, h10, _⟩ := h1
        obtain ⟨nr, hnr⟩ : ∃ nr, nr = r.length := ⟨_, rfl⟩
        rw [← hnr] at hd2 h10
        have x0 : w1.cell? ⟨R, 0, none⟩ = some (.slice a0 nr c0) := by simp [World.cell?, h10]
        clear hg1 HN h10 hnr
        go_wp2_with fail
        refine (HM.out w1).mono ?_
        rintro e w2 ⟨rfl, rfl⟩
        exact ⟨rfl, HG1.out, rfl⟩
      · have hd2 : decide (0 ≤ n) = false := decide_eq_false h0
        clear hok hd
        go_enter Try.func20, Try.ntmps20
        go_wp2_with fail
        refine HN.out.mono ?_
        rintro e w1 ⟨hg1, rfl, h1⟩
        have HG1 := hid hg1
        clear hg1 HN h1
        go_wp2_with fail
        refine (HM.out w1).mono ?_
        rintro e w2 ⟨rfl, rfl⟩
        exact ⟨rfl, HG1.out, rfl⟩

end Go.Proofs.Ytcajofdmadpmoaa
