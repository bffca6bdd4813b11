/- Package whole: lists of lists, Openings read. Package whole: Openings read. Package whole: a number written. -/
import Derived.Test.YtcajofdmadpmoaaDoorWbAH
import Derived.Test.YtcajofdmadpmoaaDoorWbAE
import Derived.Test.YtcajofdmadpmoaaDoorFolL
namespace Go.Proofs.YtcajofdmadpmoaaDoor
open Go.RowKit

theorem gb_bel {w w1 w2 : World} {R : Nat} (h : w.grownBy w1 (some R)) (e : Below w.heap.size w1 w2) : w.grownBy w2 (some R) :=
  ⟨e.os.trans h.os, e.tape.trans h.tape, e.output.trans h.output, Nat.le_trans h.size e.size, fun b hb hr => (e.block b hb).trans (h.block b hb hr)⟩
theorem RdW.bel {w w' : World} {R N0 : Nat} {bs : List Nat} (h : RdW w R bs) (e : Below N0 w w') (hR : R < N0) : RdW w' R bs := h.blocks (fun b hb => e.block b (by omega))

set_option maxRecDepth 100000 in
theorem numbers_any (R : Nat) (bs : List Nat) (w : World) (h : RdW w R bs) : Calls Tryd.prog 32 #[.pointer (some ⟨R, 0, none⟩)] w (ReE (fun w v l => SlI w l v) R w (rdL rdI bs)) := by
  have HR := hid (readInts_any R bs w h)
  cases hc : rdL rdI bs with
  | none =>
    rw [hc] at HR
    clear h hc
    go_enter Tryd.func32, Tryd.ntmps32
    go_wp2_with fail
    refine HR.out.mono ?_
    rintro e w1 ⟨hg1, rfl⟩
    exact ⟨rfl, hg1, rfl⟩
  | some xr =>
    obtain ⟨x, r⟩ := xr
    rw [hc] at HR
    clear h hc
    go_enter Tryd.func32, Tryd.ntmps32
    go_wp2_with fail
    refine HR.out.mono ?_
    rintro e w1 ⟨hg1, v, rfl, hs, h1⟩
    have HE := hid (And.intro hg1 (And.intro hs h1))
    clear hg1 hs h1 HR
    go_wp2_with fail
    go_ret
    exact ⟨HE.out.1, v, rfl, HE.out.2.1, HE.out.2.2⟩

set_option maxRecDepth 100000 in
set_option maxHeartbeats 4000000 in
theorem readRows_any (R : Nat) (bs : List Nat) (w : World) (h : RdW w R bs) : Calls Tryd.prog 34 #[.pointer (some ⟨R, 0, none⟩), .func (.func 32) #[.pointer (some ⟨R, 0, none⟩)] #[]] w (ReE (fun w v l => OwnI 0 w v l) R w (rdL (rdL rdI) bs)) := by
  have HN := hid (number_any R bs w h)
  have hRl := h.lt
  cases hc : rdI bs with
  | none =>
    rw [rdL_end (rdL rdI) hc]
    rw [hc] at HN
    clear h hc
    go_enter Tryd.func34, Tryd.ntmps34
    go_wp2_with fail
    refine HN.out.mono ?_
    rintro e w1 ⟨hg1, rfl⟩
    exact ⟨rfl, hg1, rfl⟩
  | some nr =>
    obtain ⟨n, r⟩ := nr
    rw [rdL_num (rdL rdI) hc]
    rw [hc] at HN
    have hrb : r.length ≤ 16777216 := rdI_le h hc
    clear h hc
    by_cases hok : 0 ≤ n ∧ n ≤ (r.length : Int)
    · rw [if_pos hok]
      obtain ⟨k, rfl⟩ := Int.eq_ofNat_of_zero_le hok.1
      have hkr : k ≤ r.length := by have := hok.2; omega
      have hk2 : (k : Int) ≤ (r.length : Int) := by omega
      have hk20 : k ≤ 16777216 := by omega
      rw [Int.toNat_natCast]
      clear hok
      obtain ⟨T, hT⟩ : ∃ T, T = rdN (rdL rdI) r k := ⟨_, rfl⟩
      rw [← hT]
      have HT := hid hT
      clear hT
      go_enter Tryd.func34, Tryd.ntmps34
      go_wp2_with fail
      refine HN.out.mono ?_
      rintro e w1 ⟨hg1, rfl, h1⟩
      have H1 := hid h1
      have HG1 := hid hg1
      obtain ⟨a0, c0, h10, _⟩ := h1
      obtain ⟨nr, hnr⟩ : ∃ nr, nr = r.length := ⟨_, rfl⟩
      rw [← hnr] at hk2 h10
      have x0 : w1.cell? ⟨R, 0, none⟩ = some (.slice a0 nr c0) := by simp [World.cell?, h10]
      have HM := hid (must_yes w1)
      clear hg1 HN h10 hnr
      go_wp2_with fail
      refine HM.out.mono ?_
      rintro e w2 ⟨rfl, hw⟩
      have hwx := hw.symm
      subst hwx
      clear hw HM x0 hk2
      go_wp2_with fail
      go_loopw [6, 22] (fun lv0 iv wr => ∃ (i : Nat) (lv : Value), i ≤ k ∧ iv = .int .i64 (i : Int) ∧ lv = lv0 ∧ Hid (∃ (l : List (List Int)) (r' : List Nat), rdN (rdL rdI) r i = some (l, r') ∧ l.length = i ∧ OwnI w.heap.size wr lv l ∧ RdW wr R r' ∧ w.grownBy wr (some R))) (fun _ iv _ => k - (intOf iv).toNat)
      case atStart => exact ⟨0, _, Nat.zero_le _, rfl, rfl, [], r, rfl, rfl, OwnI.nil _ _, H1.out, HG1.out⟩
      case round =>
        obtain ⟨i, lv, hi', rfl, rfl, hI⟩ := hrel
        obtain ⟨l, r', e1, e2, e3, e4, e5⟩ := hI.out
        by_cases hlt : i < k
        · have hlt2 : (i : Int) < (k : Int) := by omega
          have hks : IntKind.i64.wrap ((i : Int) + 1) = (i : Int) + 1 := by rw [IntKind.wrap_i64]; omega
          have HO := hid (numbers_any R r' wr e4)
          cases hp : (rdL rdI) r' with
          | none =>
            rw [hp] at HO
            have HE : Hid (T = none) := by
              unfold Hid
              rw [HT.out]
              refine rdN_none (i := i + 1) ?_ k (by omega)
              simp only [rdN, e1, hp]
            have HW := hid e5
            clear hI e1 e3 e4 e5 hp
            go_wp2_with fail
            refine HO.out.mono ?_
            rintro e w3 ⟨hg3, rfl⟩
            refine ⟨rfl, gb_trans HW.out hg3, ?_⟩
            rw [HE.out]
            rfl
          | some xr =>
            obtain ⟨x, r2⟩ := xr
            rw [hp] at HO
            have HS : Hid (rdN (rdL rdI) r (i + 1) = some (l ++ [x], r2) ∧ l.length = i) := by
              refine ⟨?_, e2⟩
              simp only [rdN, e1, hp]
            have HW := hid e5
            have HOW := hid e3
            have HR4 := hid e4
            clear hI e1 e3 e4 e5 hp
            go_wp2_with fail
            refine HO.out.mono ?_
            rintro e w3 ⟨hg3, v3, rfl, hs3, h3⟩
            have H3 := hid h3
            have HG3 := hid (gb_trans HW.out hg3)
            have HOX := hid (HOW.out.ki (rd_ko HR4.out hg3).1)
            have hs3' : SlI w3 x v3 := hs3
            have HSX := hid hs3'
            obtain ⟨a3, c3, rfl, _⟩ := hs3'
            have HLE := hid HS.out.2
            clear h3 hg3 hs3 HO
            obtain ⟨nx, hnx⟩ : ∃ nx, nx = x.length := ⟨_, rfl⟩
            rw [← hnx] at HSX ⊢
            clear hnx
            go_wp2_with (at_builtin; refine wpList_rowI w3 w.heap.size rfl _ _ rfl _ _ l x HOX.out HSX.out rfl rfl (by rw [HLE.out]; omega) HG3.out.size ?_)
            intro v' w5 ho5 hb5
            have HE : Hid (∃ (l : List (List Int)) (r' : List Nat), rdN (rdL rdI) r (i + 1) = some (l, r') ∧ l.length = i + 1 ∧ OwnI w.heap.size w5 v' l ∧ RdW w5 R r' ∧ w.grownBy w5 (some R)) := ⟨l ++ [x], r2, HS.out.1, by rw [List.length_append, HS.out.2]; rfl, ho5, H3.out.bel hb5 hRl, gb_bel HG3.out hb5⟩
            clear ho5 hb5 HOX HR4 HOW HW HS HSX
            go_wp2_with fail
            go_roundw
            case rel => exact ⟨i + 1, _, by omega, by go_num, rfl, HE⟩
            case measure => simp [intOf]; omega
        · obtain rfl : i = k := by omega
          have hlt2 : ¬ (i : Int) < (i : Int) := by omega
          have HE : Hid (∃ l r', T = some (l, r') ∧ ((fun w v l => OwnI 0 w v l)) wr lv l ∧ RdW wr R r' ∧ w.grownBy wr (some R)) := ⟨l, r', by rw [HT.out]; exact e1, e3.mono (Nat.zero_le _), e4, e5⟩
          clear hI e1 e2 e3 e4 e5
          go_wp2_with fail
          go_ret
          obtain ⟨l, r', k1, k2, k3, k4⟩ := HE.out
          refine ⟨k4, ?_⟩
          rw [k1]
          exact ⟨_, rfl, k2, k3⟩
    · rw [if_neg hok]
      have hd : (decide (0 ≤ n) && decide (n ≤ (r.length : Int))) = false := by
        rw [Bool.and_eq_false_iff, decide_eq_false_iff_not, decide_eq_false_iff_not]
        omega
      have HM := hid (fun W => must_no W)
      by_cases h0 : 0 ≤ n
      · have hd2 : decide (n ≤ (r.length : Int)) = false := decide_eq_false (fun e => hok ⟨h0, e⟩)
        clear hok hd
        go_enter Tryd.func34, Tryd.ntmps34
        go_wp2_with fail
        refine HN.out.mono ?_
        rintro e w1 ⟨hg1, rfl, h1⟩
        have HG1 := hid hg1
        obtain ⟨a0, c0, h10, _⟩ := h1
        obtain ⟨nr, hnr⟩ : ∃ nr, nr = r.length := ⟨_, rfl⟩
        rw [← hnr] at hd2 h10
        have x0 : w1.cell? ⟨R, 0, none⟩ = some (.slice a0 nr c0) := by simp [World.cell?, h10]
        clear hg1 HN h10 hnr
        go_wp2_with fail
        refine (HM.out w1).mono ?_
        rintro e w2 ⟨rfl, rfl⟩
        exact ⟨rfl, HG1.out, rfl⟩
      · have hd2 : decide (0 ≤ n) = false := decide_eq_false h0
        clear hok hd
        go_enter Tryd.func34, Tryd.ntmps34
        go_wp2_with fail
        refine HN.out.mono ?_
        rintro e w1 ⟨hg1, rfl, h1⟩
        have HG1 := hid hg1
        clear hg1 HN h1
        go_wp2_with fail
        refine (HM.out w1).mono ?_
        rintro e w2 ⟨rfl, rfl⟩
        exact ⟨rfl, HG1.out, rfl⟩

end Go.Proofs.YtcajofdmadpmoaaDoor

namespace Go.Proofs.YtcajofdmadpmoaaDoor
open Go.RowKit

theorem set_atW {W : World} {g : Nat} {cs : Array Value} {t : TypeId} {f : Nat × Nat} (h : W.heap[g]? = some (.cells cs t f)) (i : Nat) (v : Value) : (W.setCell ⟨g, i, none⟩ v).heap[g]? = some (.cells (cs.setIfInBounds i v) t f) := by
  simp [World.setCell, Array.getElem?_modify, h]
/-- what stands in opening -/
structure OnS (R O : Nat) (w W : World) (v1 v2 v3 : Value) : Prop where
  o : W.heap[O]? = some (.cells #[v1, v2, v3] 28 (0, 0))
  g : w.grownBy W (some R)
  hO : w.heap.size ≤ O
  hR : R < w.heap.size
section
variable {R O : Nat} {w W W' : World} {v1 v2 v3 : Value}
theorem OnS.step (h : OnS R O w W v1 v2 v3) (e : W.grownBy W' (some R)) : OnS R O w W' v1 v2 v3 :=
  ⟨(gb_blk e (Array.getElem?_eq_some_iff.1 h.o).1 (by have := h.hO; have := h.hR; omega)).trans h.o, gb_trans h.g e, h.hO, h.hR⟩
theorem OnS.gs (h : OnS R O w W v1 v2 v3) (i : Nat) (x : Value) : w.grownBy (W.setCell ⟨O, i, none⟩ x) (some R) :=
  gb_bel h.g ((Below.refl _ _).setCell (p := ⟨O, i, none⟩) h.hO x)
theorem OnS.set0 (h : OnS R O w W v1 v2 v3) (x : Value) : OnS R O w (W.setCell ⟨O, 0, none⟩ x) x v2 v3 := ⟨set_atW h.o 0 x, h.gs 0 x, h.hO, h.hR⟩
theorem OnS.set1 (h : OnS R O w W v1 v2 v3) (x : Value) : OnS R O w (W.setCell ⟨O, 1, none⟩ x) v1 x v3 := ⟨set_atW h.o 1 x, h.gs 1 x, h.hO, h.hR⟩
theorem OnS.set2 (h : OnS R O w W v1 v2 v3) (x : Value) : OnS R O w (W.setCell ⟨O, 2, none⟩ x) v1 v2 x := ⟨set_atW h.o 2 x, h.gs 2 x, h.hO, h.hR⟩
theorem OnS.ki (h : OnS R O w W v1 v2 v3) (i : Nat) (x : Value) : KI W (W.setCell ⟨O, i, none⟩ x) :=
  KI.notO (by simp [World.setCell]) (fun b c t f hb ht => Below.heap_setCell _ _ _ _ (by
    show b ≠ O
    rintro rfl
    rw [h.o] at hb
    injection hb with hb
    injection hb with _ h3 _
    exact ht h3.symm))
theorem OnS.rd (h : OnS R O w W v1 v2 v3) {bs : List Nat} (hr : RdW W R bs) (i : Nat) (x : Value) : RdW (W.setCell ⟨O, i, none⟩ x) R bs :=
  hr.blocks (fun b hb => Below.heap_setCell _ _ _ _ (by show b ≠ O; have := h.hO; have := h.hR; omega))
theorem OnS.fz (h : OnS R O w W v1 v2 v3) (i : Nat) : W.frozen? ⟨O, i, none⟩ = false := by simp [World.frozen?, h.o]
theorem OnS.c0 (h : OnS R O w W v1 v2 v3) : W.cell? ⟨O, 0, none⟩ = some v1 := by simp [World.cell?, h.o]
theorem OnS.c1 (h : OnS R O w W v1 v2 v3) : W.cell? ⟨O, 1, none⟩ = some v2 := by simp [World.cell?, h.o]
theorem OnS.c2 (h : OnS R O w W v1 v2 v3) : W.cell? ⟨O, 2, none⟩ = some v3 := by simp [World.cell?, h.o]
end
/-- an Opening that was read -/
def POn (w : World) (v : Value) (o : OnZ) : Prop := ∃ vp vr vn, v = .agg #[vp, vr, vn] ∧ SlI w o.ps vp ∧ OwnI 0 w vr o.rows ∧ OwnI 0 w vn o.nodes
theorem rdO_1 {bs : List Nat} (h : rdL rdI bs = none) : rdO bs = none := by unfold rdO rdT; rw [h]
theorem rdO_2 {bs r : List Nat} {a : List Int} (h : rdL rdI bs = some (a, r)) (h2 : rdL (rdL rdI) r = none) : rdO bs = none := by simp only [rdO, rdT, h, h2]
theorem rdO_3 {bs r r2 : List Nat} {a : List Int} {b : List (List Int)} (h : rdL rdI bs = some (a, r)) (h2 : rdL (rdL rdI) r = some (b, r2)) (h3 : rdL (rdL rdI) r2 = none) : rdO bs = none := by simp only [rdO, rdT, h, h2, h3]
theorem rdO_4 {bs r r2 r3 : List Nat} {a : List Int} {b c : List (List Int)} (h : rdL rdI bs = some (a, r)) (h2 : rdL (rdL rdI) r = some (b, r2)) (h3 : rdL (rdL rdI) r2 = some (c, r3)) : rdO bs = some (⟨a, b, c⟩, r3) := by simp only [rdO, rdT, h, h2, h3]

set_option maxRecDepth 100000 in
set_option maxHeartbeats 4000000 in
theorem opening_any (R : Nat) (bs : List Nat) (w : World) (h : RdW w R bs) : Calls Tryd.prog 36 #[.pointer (some ⟨R, 0, none⟩)] w (ReE POn R w (rdO bs)) := by
  have hRl := h.lt
  obtain ⟨O, hO⟩ : ∃ O, O = w.heap.size := ⟨_, rfl⟩
  obtain ⟨W0, hW0⟩ : ∃ W0, W0 = w.alloc (.cells #[.slice none 0 0, .slice none 0 0, .slice none 0 0] 28) := ⟨_, rfl⟩
  have hb0 : Below w.heap.size w W0 := by rw [hW0]; exact (Below.refl _ _).alloc (Nat.le_refl _) _
  have hs0 : OnS R O w W0 (.slice none 0 0) (.slice none 0 0) (.slice none 0 0) := ⟨by rw [hW0, hO]; exact heap_alloc_new w _, gb_below hb0, by omega, hRl⟩
  have HR1 := hid (numbers_any R bs W0 (h.below hb0))
  have HS0 := hid hs0
  have HW0 := hid hW0
  have HOE := hid hO
  obtain ⟨T, hT⟩ : ∃ T, T = rdO bs := ⟨_, rfl⟩
  rw [← hT]
  have HT := hid hT
  clear h hb0 hs0 hW0 hO hT
  cases c1 : rdL rdI bs with
  | none =>
    have HE : Hid (T = none) := by unfold Hid; rw [HT.out]; exact rdO_1 c1
    rw [c1] at HR1
    clear c1
    go_enter Tryd.func36, Tryd.ntmps36
    go_wp2_with fail
    rw [← HW0.out]
    refine HR1.out.mono ?_
    rintro e w1 ⟨hg1, rfl⟩
    refine ⟨rfl, (HS0.out.step hg1).g, ?_⟩
    rw [HE.out]
    rfl
  | some ar =>
  obtain ⟨a, r1⟩ := ar
  rw [c1] at HR1
  go_enter Tryd.func36, Tryd.ntmps36
  go_wp2_with fail
  rw [← HW0.out, ← HOE.out]
  refine HR1.out.mono ?_
  rintro e w1 ⟨hg1, v1, rfl, hs1, h1⟩
  have hs1' : SlI w1 a v1 := hs1
  have HS1 := hid (HS0.out.step hg1)
  have HL1 := hid (hs1'.ki (HS1.out.ki 0 v1))
  have HRD := hid (readRows_any R r1 _ (HS1.out.rd h1 0 v1))
  have HR2 := hid (HS1.out.rd h1 0 v1)
  have HS2 := hid (HS1.out.set0 v1)
  have y0 := HS1.out.c0
  have f0 := HS1.out.fz 0
  obtain ⟨n1, hn1⟩ : ∃ n1, n1 = a.length := ⟨_, rfl⟩
  obtain ⟨a1, k1, e1, _⟩ := hs1'
  rw [← hn1] at e1
  subst e1
  clear hg1 hs1 h1 HR1 HW0 HOE HS0 hn1
  cases c2 : rdL (rdL rdI) r1 with
  | none =>
    have HE : Hid (T = none) := by unfold Hid; rw [HT.out]; exact rdO_2 c1 c2
    rw [c2] at HRD
    clear c1 c2
    go_wp2_with fail
    refine HRD.out.mono ?_
    rintro e w3 ⟨hg3, rfl⟩
    refine ⟨rfl, (HS2.out.step hg3).g, ?_⟩
    rw [HE.out]
    rfl
  | some br =>
  obtain ⟨b, r2⟩ := br
  rw [c2] at HRD
  go_wp2_with fail
  refine HRD.out.mono ?_
  rintro e w3 ⟨hg3, v3, rfl, hs3, h3⟩
  have hs3' : OwnI 0 w3 v3 b := hs3
  have HS3 := hid (HS2.out.step hg3)
  have HL3 := hid ((HL1.out.ki (rd_ko HR2.out hg3).1).ki (HS3.out.ki 1 v3))
  have HB3 := hid (hs3'.ki (HS3.out.ki 1 v3))
  have HRE := hid (readRows_any R r2 _ (HS3.out.rd h3 1 v3))
  have HR4 := hid (HS3.out.rd h3 1 v3)
  have HS4 := hid (HS3.out.set1 v3)
  clear y0 f0
  have y0 := HS3.out.c1
  have f0 := HS3.out.fz 1
  obtain ⟨a3, k3, e3, _⟩ := hs3'.lst
  obtain ⟨n3, hn3⟩ : ∃ n3, n3 = b.length := ⟨_, rfl⟩
  rw [← hn3] at e3
  subst e3
  clear hg3 hs3 hs3' h3 HRD HS1 HS2 hn3
  cases c3 : rdL (rdL rdI) r2 with
  | none =>
    have HE : Hid (T = none) := by unfold Hid; rw [HT.out]; exact rdO_3 c1 c2 c3
    rw [c3] at HRE
    clear c1 c2 c3
    go_wp2_with fail
    refine HRE.out.mono ?_
    rintro e w5 ⟨hg5, rfl⟩
    refine ⟨rfl, (HS4.out.step hg5).g, ?_⟩
    rw [HE.out]
    rfl
  | some cr =>
  obtain ⟨c, r3⟩ := cr
  rw [c3] at HRE
  go_wp2_with fail
  refine HRE.out.mono ?_
  rintro e w5 ⟨hg5, v5, rfl, hs5, h5⟩
  have hs5' : OwnI 0 w5 v5 c := hs5
  have HS5 := hid (HS4.out.step hg5)
  obtain ⟨a5, k5, e5, _⟩ := hs5'.lst
  obtain ⟨n5, hn5⟩ : ∃ n5, n5 = c.length := ⟨_, rfl⟩
  rw [← hn5] at e5
  subst e5
  have hk := (rd_ko HR4.out hg5).1
  have HE : Hid (T = some (⟨a, b, c⟩, r3) ∧ OnS R O w (w5.setCell ⟨O, 2, none⟩ (.slice a5 n5 k5)) (.slice a1 n1 k1) (.slice a3 n3 k3) (.slice a5 n5 k5) ∧ SlI (w5.setCell ⟨O, 2, none⟩ (.slice a5 n5 k5)) a (.slice a1 n1 k1) ∧ OwnI 0 (w5.setCell ⟨O, 2, none⟩ (.slice a5 n5 k5)) (.slice a3 n3 k3) b ∧ OwnI 0 (w5.setCell ⟨O, 2, none⟩ (.slice a5 n5 k5)) (.slice a5 n5 k5) c ∧ RdW (w5.setCell ⟨O, 2, none⟩ (.slice a5 n5 k5)) R r3) :=
    ⟨by rw [HT.out]; exact rdO_4 c1 c2 c3, HS5.out.set2 _, (HL3.out.ki hk).ki (HS5.out.ki 2 _), (HB3.out.ki hk).ki (HS5.out.ki 2 _), hs5'.ki (HS5.out.ki 2 _), HS5.out.rd h5 2 _⟩
  clear y0 f0
  have y0 := HS5.out.c2
  have f0 := HS5.out.fz 2
  have z0 := HE.out.2.1.c0
  have z1 := HE.out.2.1.c1
  have z2 := HE.out.2.1.c2
  have g0 := HE.out.2.1.fz 0
  have g1 := HE.out.2.1.fz 1
  have g2 := HE.out.2.1.fz 2
  clear hg5 hs5 hs5' h5 HRE HS3 HS4 hn5 hk c1 c2 c3 HL1 HL3 HB3
  go_wp2_with fail
  generalize w5.setCell ⟨O, 2, none⟩ (.slice a5 n5 k5) = W6 at *
  have S0 := HE.out.2.1
  have S1 := S0.set0 (.slice a1 n1 k1)
  have S2 := S1.set1 (.slice a3 n3 k3)
  have S3 := S2.set2 (.slice a5 n5 k5)
  refine bodyPost_ret (results_cell_row rfl _ _ O 28 _ (0, 0) _ rfl S3.o Tryd.underlying28 rfl (by kernel_rfl)) rfl ?_
  refine ⟨S3.g, ?_⟩
  rw [HE.out.1]
  exact ⟨_, rfl, ⟨_, _, _, rfl, ((HE.out.2.2.1.ki (S0.ki 0 _)).ki (S1.ki 1 _)).ki (S2.ki 2 _), ((HE.out.2.2.2.1.ki (S0.ki 0 _)).ki (S1.ki 1 _)).ki (S2.ki 2 _), ((HE.out.2.2.2.2.1.ki (S0.ki 0 _)).ki (S1.ki 1 _)).ki (S2.ki 2 _)⟩, S2.rd (S1.rd (S0.rd HE.out.2.2.2.2.2 0 _) 1 _) 2 _⟩

end Go.Proofs.YtcajofdmadpmoaaDoor

namespace Go.Proofs.YtcajofdmadpmoaaDoor
open Go.RowKit

theorem Tryd.infoU8 : (Tryd.prog.info? 5).map (fun i => (i.zero, i.size, i.bytes)) = some (some (.int .u8 0), 1, 1) := by kernel_rfl
def u8s (bs : List Nat) : List Value := bs.map (fun (b : Nat) => Value.int .u8 (b : Int))
theorem u8s_app (a b : List Nat) : u8s (a ++ b) = u8s a ++ u8s b := List.map_append
/-- bytes of the call's own -/
def OwnB (base : Nat) (w : World) (v : Value) (bs : List Nat) : Prop := w.ownsRow base 5 1 v bs.length (u8s bs)
/-- all that is no bytes is as it was -/
def KU (w w' : World) : Prop := ∀ (g : Nat) (cs : Array Value) (t : TypeId) (f : Nat × Nat), w.heap[g]? = some (.cells cs t f) → t ≠ 5 → w'.heap[g]? = w.heap[g]?
theorem KU.refl (w : World) : KU w w := fun _ _ _ _ _ _ => rfl
theorem KU.trans {a b c : World} (h : KU a b) (k : KU b c) : KU a c := fun g cs t f e ht => (k g cs t f ((h g cs t f e ht).trans e) ht).trans (h g cs t f e ht)
theorem KU.below {w w' : World} (e : Below w.heap.size w w') : KU w w' := fun b _ _ _ h _ => e.block b (Array.getElem?_eq_some_iff.1 h).1
/-- how a writing ends -/
def ApE (base : Nat) (w : World) (bs : List Nat) (e : Ending) (w' : World) : Prop := ∃ v', e = .returned v' ∧ OwnB base w' v' bs ∧ Below base w w' ∧ KU w w'
/-- own bytes that turn leave lists -/
theorem OwnB.grown {base : Nat} {w w' : World} {v : Value} {bs : List Nat} (h : OwnB base w v bs) (e : w.grownBy w' v.ownBlock) (hb : base ≤ w.heap.size) : Below base w w' ∧ KU w w' := by
  refine ⟨(Below.refl base _).grown e hb (fun k hk => (World.ownsRow.lt h k hk).1), ?_⟩
  rcases h.2 with ⟨rfl, _⟩ | ⟨g, cap, cur, rfl, _, hg, _⟩
  · exact KU.below ⟨e.os, e.tape, e.output, e.size, fun b hb => e.block b hb (by simp [Value.ownBlock])⟩
  · intro b cs t f hx ht
    refine e.block b (Array.getElem?_eq_some_iff.1 hx).1 (fun en => ?_)
    injection en with en
    subst en
    rw [hg] at hx
    injection hx with hx
    injection hx with _ h3 _
    exact ht h3.symm
theorem vby_len (x : Nat) : 1 ≤ (vby x).length := by
  rw [vby]
  split <;> simp
theorem vby_len10 : ∀ (k x : Nat), x < 128 ^ (k + 1) → (vby x).length ≤ k + 1
  | 0, x, h => by rw [vby_small (by omega)]; simp
  | k + 1, x, h => by
    by_cases h1 : x < 128
    · rw [vby_small h1]; simp
    · rw [vby_big h1, List.length_cons]
      have := vby_len10 k (x / 128) (by rw [Nat.pow_succ] at h; omega)
      omega
theorem vby_le10 {x : Nat} (h : x < 18446744073709551616) : (vby x).length ≤ 10 := vby_len10 9 x (by have e : (128 : Nat) ^ (9 + 1) = 1180591620717411303424 := by decide
                                                                                                     rw [e]; omega)
theorem uzz_lt (n : Int) : uzz n < 18446744073709551616 := by unfold uzz; omega
theorem uzz_wrap (n : Int) : IntKind.u64.wrap n = (uzz n : Int) := by rw [IntKind.wrap_u64]; unfold uzz; omega

set_option maxRecDepth 100000 in
set_option maxHeartbeats 2000000 in
theorem appNumber_any (base : Nat) (bs : List Nat) (v : Value) (n : Int) (w : World) (hO : OwnB base w v bs) (hb : base ≤ w.heap.size) (hl0 : (bs ++ vbI n).length ≤ 70368744177664) : Calls Tryd.prog 11 #[v, .int .i64 n] w (ApE base w (bs ++ vbI n)) := by
  obtain ⟨i0, hi, hz0, hz1, hz2⟩ := info_parts Tryd.infoU8
  have hl : bs.length ≤ 70368744177664 := by rw [List.length_append] at hl0; omega
  clear hl0
  obtain ⟨X, hX⟩ : ∃ X, X = uzz n := ⟨_, rfl⟩
  have hcv : IntKind.u64.wrap n = (X : Int) := by rw [hX]; exact uzz_wrap n
  have hXl : X < 18446744073709551616 := by rw [hX]; exact uzz_lt n
  have hT : vbI n = vby X := by rw [hX]; rfl
  rw [hT]
  obtain ⟨T, hTT⟩ : ∃ T, T = vby X := ⟨_, rfl⟩
  have hTl : T.length ≤ 10 := by rw [hTT]; exact vby_le10 hXl
  rw [← hTT]
  have HT := hid hTT
  have HO := hid hO
  clear hX hT hO hTT
  go_enter Tryd.func11, Tryd.ntmps11
  go_wp2_with fail
  go_loopw [0, 5] (fun bv rv wr => ∃ (x : Nat) (l : List Nat), x < 18446744073709551616 ∧ rv = .int .u64 (x : Int) ∧ Hid (T = l ++ vby x ∧ OwnB base wr bv (bs ++ l) ∧ Below base w wr ∧ KU w wr)) (fun _ rv _ => (intOf rv).toNat)
  case atStart => exact ⟨X, [], hXl, rfl, by rw [HT.out]; rfl, by rw [List.append_nil]; exact HO.out, Below.refl _ _, KU.refl _⟩
  case round =>
    obtain ⟨x, l, hx, rfl, hI⟩ := hrel
    have hll : bs.length + l.length ≤ 70368744177674 := by
      have := hI.out.1
      have h2 : T.length = l.length + (vby x).length := by rw [this, List.length_append]
      omega
    by_cases h1 : x < 128
    · have h2 : ¬ ((128 : Int) ≤ (x : Int)) := by omega
      have hm : IntKind.u8.wrap (x : Int) = (x : Int) := by rw [IntKind.wrap_u8]; omega
      have HT2 : Hid (T = l ++ [x]) := by unfold Hid; rw [← vby_small h1]; exact hI.out.1
      have HOX := hid (World.ownsRow.alloc hI.out.2.1 (.cells #[.int .u8 ((x : Int))] 5))
      have hbw : base ≤ wr.heap.size := Nat.le_trans hb hI.out.2.2.1.size
      have HBW := hid hbw
      go_wp2_with (at_builtin; refine wpList_append_own _ rfl _ _ 31 rfl base 5 i0 (.int .u8 0) 1 1 Tryd.underlying31 hi hz0 hz1 hz2 rfl (by decide) _ _ _ rfl HOX.out ⟨wr.heap.size, 0, none⟩ 1 1 [.int .u8 ((x : Int))] rfl rfl (cell_one_new _ _ _) ?c2 ?c3 ?c4 ?c5 ?_)
      case c2 => first | rfl | (intro u hu; simp at hu; subst hu; rfl)
      case c3 => (try simp only [List.length_append]); unfold maxLen; omega
      case c4 => (try simp only [List.length_append]); omega
      case c5 => first | omega | (simp; omega)
      intro v' w5 hown2 hgrow _
      have hal : Below wr.heap.size wr (wr.alloc (.cells #[.int .u8 ((x : Int))] 5)) := (Below.refl _ _).alloc (Nat.le_refl _) _
      have hgr := OwnB.grown (bs := bs ++ l) HOX.out hgrow (Nat.le_trans HBW.out hal.size)
      have HE : Hid (OwnB base w5 v' (bs ++ T) ∧ Below base w w5 ∧ KU w w5) := by
        refine ⟨?_, hI.out.2.2.1.trans ((hal.mono HBW.out).trans hgr.1), hI.out.2.2.2.trans ((KU.below hal).trans hgr.2)⟩
        unfold OwnB
        rw [HT2.out, ← List.append_assoc, u8s_app, List.length_append, List.length_append]
        exact hown2
      clear hown2 hgrow hgr hal HOX hI
      go_wp2_with fail
      go_ret
      exact ⟨_, rfl, HE.out⟩
    · have h2 : (128 : Int) ≤ (x : Int) := by omega
      have HT2 : Hid (T = (l ++ [x % 128 + 128]) ++ vby (x / 128)) := by
        unfold Hid
        rw [List.append_assoc]
        refine hI.out.1.trans ?_
        rw [vby_big h1]
        rfl
      have HOX := hid (World.ownsRow.alloc hI.out.2.1 (.cells #[.int .u8 ((x : Int) % 128 + 128)] 5))
      have hbw : base ≤ wr.heap.size := Nat.le_trans hb hI.out.2.2.1.size
      have HBW := hid hbw
      go_wp2_with (at_builtin; refine wpList_append_own _ rfl _ _ 31 rfl base 5 i0 (.int .u8 0) 1 1 Tryd.underlying31 hi hz0 hz1 hz2 rfl (by decide) _ _ _ rfl HOX.out ⟨wr.heap.size, 0, none⟩ 1 1 [.int .u8 ((x : Int) % 128 + 128)] rfl rfl (cell_one_new _ _ _) ?c2 ?c3 ?c4 ?c5 ?_)
      case c2 => first | rfl | (intro u hu; simp at hu; subst hu; rfl)
      case c3 => (try simp only [List.length_append]); unfold maxLen; omega
      case c4 => (try simp only [List.length_append]); omega
      case c5 => first | omega | (simp; omega)
      intro v' w5 hown2 hgrow _
      have hal : Below wr.heap.size wr (wr.alloc (.cells #[.int .u8 ((x : Int) % 128 + 128)] 5)) := (Below.refl _ _).alloc (Nat.le_refl _) _
      have hgr := OwnB.grown (bs := bs ++ l) HOX.out hgrow (Nat.le_trans HBW.out hal.size)
      have HE : Hid (OwnB base w5 v' (bs ++ (l ++ [x % 128 + 128])) ∧ Below base w w5 ∧ KU w w5) := by
        refine ⟨?_, hI.out.2.2.1.trans ((hal.mono HBW.out).trans hgr.1), hI.out.2.2.2.trans ((KU.below hal).trans hgr.2)⟩
        unfold OwnB
        have e : u8s [x % 128 + 128] = [.int .u8 ((x : Int) % 128 + 128)] := by
          show [Value.int .u8 (((x % 128 + 128 : Nat)) : Int)] = _
          rw [show (((x % 128 + 128 : Nat)) : Int) = (x : Int) % 128 + 128 from by omega]
        rw [← List.append_assoc, u8s_app, e, List.length_append, List.length_append]
        exact hown2
      clear hown2 hgrow hgr hal HOX hI
      go_wp2_with fail
      go_roundw
      case rel => exact ⟨x / 128, l ++ [x % 128 + 128], by omega, by go_num, HT2.out, HE.out.1, HE.out.2.1, HE.out.2.2⟩
      case measure => simp [intOf]; omega

end Go.Proofs.YtcajofdmadpmoaaDoor
