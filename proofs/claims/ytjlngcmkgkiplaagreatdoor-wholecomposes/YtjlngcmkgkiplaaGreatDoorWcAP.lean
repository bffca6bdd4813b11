
import Derived.Test.YtjlngcmkgkiplaaGreatDoorWcAO
import Derived.Test.YtjlngcmkgkiplaaGreatDoorHeldS
import Derived.Test.YtjlngcmkgkiplaaGreatDoorWcAH
import Derived.Test.YtjlngcmkgkiplaaGreatDoorWcAI
import Derived.Test.YtjlngcmkgkiplaaGreatDoorWcAK
import Derived.Test.YtjlngcmkgkiplaaGreatDoorFld
import Derived.Test.YtjlngcmkgkiplaaGreatDoorWcAN
import Derived.Laws.CopyOwn
import Derived.Deep.RegionLaw
import Derived.Test.YtjlngcmkgkiplaaGreatDoorDoms
import Derived.Test.YtjlngcmkgkiplaaGreatDoorSpgs
import Derived.Test.YtjlngcmkgkiplaaGreatDoorWcAA
set_option maxRecDepth 1000000
set_option maxHeartbeats 8000000
namespace Go.Proofs.YtjlngcmkgkiplaaGreatDoor
open Go.RowKit Go.Maps
open Go.RowKit
def BRow (g : Nat) (w : World) (l : List Int) : Prop := w.heap[g]? = some (.cells (l.map (Value.int .i64)).toArray 3 (0, 0))
theorem BRow.rowIs {g : Nat} {w : World} {l : List Int} (h : BRow g w l) : w.rowIs g 3 l.length (fun i => .int .i64 (zat l i)) :=
 ⟨_, h, by simp, fun i hi => by simp [zat, hi]⟩
theorem brow_of {g : Nat} {w : World} {l : List Int} (h : w.rowIs g 3 l.length (fun i => .int .i64 (zat l i))) : BRow g w l := by
 obtain ⟨c, hb, hs, hc⟩ := h
 unfold BRow
 rw [hb]
 congr 2
 apply Array.ext
 ·simpa using hs
 ·intro i h1 h2
  have h4 : i < l.length := by simpa using h2
  have := hc i h4
  rw [Array.getElem?_eq_getElem h1] at this
  injection this with this
  rw [this]
  simp [zat, h4]
theorem BRow.set {g : Nat} {w : World} {l : List Int} (h : BRow g w l) {k : Nat} (x : Int) (hk : k < l.length) : BRow g (w.setCell ⟨g, k, none⟩ (.int .i64 x)) (l.set k x) := by
 apply brow_of
 rw [List.length_set]
 have := h.rowIs.set k (.int .i64 x)
 obtain ⟨c, h1, h2, h3⟩ := this
 refine ⟨c, h1, h2, fun i hi => ?_⟩
 rw [h3 i hi]
 show some (if i = k then Value.int .i64 x else .int .i64 (zat l i)) = some (.int .i64 (zat (l.set k x) i))
 rw [zat_set hk]
 split <;> rfl
theorem BRow.row {g : Nat} {w : World} {l : List Int} (h : BRow g w l) : IRow g w l :=
 ⟨(Array.getElem?_eq_some_iff.1 h).1, fun k hk => by simp [World.cell?, show w.heap[g]? = _ from h, zat, hk], fun j => by simp [World.frozen?, show w.heap[g]? = _ from h]⟩
theorem made_zero (n : Nat) : (madeCells (Value.int .i64 0).cells (n * 1)).toList = (List.replicate n (0 : Int)).map (Value.int .i64) := by
 apply List.ext_getElem?
 intro i
 by_cases h : i < n
 ·simp [madeCells, h]
  show (#[Value.int .i64 0])[i % 1]! = _
  rw [Nat.mod_one]
  rfl
 ·simp [madeCells, h]
theorem brow_made {base g n : Nat} {w : World} (h : w.ownsRow base 3 1 (.slice (some ⟨g, 0, none⟩) n n) n (madeCells (Value.int .i64 0).cells (n * 1)).toList) : BRow g w (List.replicate n 0) := by
 rcases h.2 with ⟨e, _⟩ | ⟨g', cap, cur, e1, _, hg, _, _, hs, ht⟩
 ·cases e
 ·injection e1 with e1 _ e3
  injection e1 with e1
  injection e1 with e1
  subst e1 e3
  unfold BRow
  rw [hg]
  congr 2
  rw [made_zero] at ht
  apply Array.toList_inj.1
  rw [<- ht, List.take_of_length_le (by simp; omega)]
theorem pwidth_any (size : Int) (aL : Option Addr) (nL cL : Nat) (w : World) (hn : nL <= 281474976710656) :
  Calls Tryz.prog 20 #[.agg #[.int .i64 size, .slice aL nL cL]] w fun e w' => e = .returned (.int .i64 ((20 + nL : Nat) : Int)) /\ Below w.heap.size w w' := by
 obtain ⟨W0, hW0⟩ := exE (w.alloc (.cells #[.int .i64 size, .slice aL nL cL] 24))
 have hb0 := blA hW0
 have hs0 := haA hW0
 have k1 := clA 1 hs0 rfl
 have HB0 := hid hb0
 have hwr : IntKind.i64.wrap (20 + (nL : Int)) = ((20 + nL : Nat) : Int) := by rw [IntKind.wrap_i64]; omega
 clear hb0 hs0
 go_enter Tryz.func20, Tryz.ntmps20
 go_wp2_with fail
 rw [<- hW0]
 clear hW0
 go_wp2_with fail
 go_ret
 exact ⟨by first | rfl | simp, HB0.out⟩
def FitP (q nL : Nat) (n : Int) : Prop := ∃ k : Nat, 2 <= k /\ k <= 9 /\ n = ((2 ^ k : Nat) : Int) /\ (q - 1) % (8 * 2 ^ k) = 0 /\ 8 * 2 ^ k < q - 1 /\ 1 <= nL /\ nL <= 64 /\ nL <= q
noncomputable def fitQ (q nL : Nat) (n : Int) : Bool := @decide (FitP q nL n) (Classical.propDecidable _)
theorem fitQ_yes {q nL : Nat} {n : Int} (h : FitP q nL n) : fitQ q nL n = true := by unfold fitQ; exact @decide_eq_true _ (Classical.propDecidable _) h
theorem fitQ_no {q nL : Nat} {n : Int} (h : ¬ FitP q nL n) : fitQ q nL n = false := by unfold fitQ; exact @decide_eq_false _ (Classical.propDecidable _) h
theorem fitQ_of {q nL : Nat} {n : Int} (h : fitQ q nL n = true) : FitP q nL n := by
 unfold fitQ at h
 exact @of_decide_eq_true _ (Classical.propDecidable _) h
theorem FitP.bd {q nL : Nat} {n : Int} (h : FitP q nL n) : 4 <= n /\ n <= 512 := by
 obtain ⟨k, h1, h2, rfl, _⟩ := h
 have a : 2 ^ 2 <= 2 ^ k := Nat.pow_le_pow_right (by decide) h1
 have b : 2 ^ k <= 2 ^ 9 := Nat.pow_le_pow_right (by decide) h2
 omega
theorem pow_range {m : Nat} (h1 : 4 <= m) (h2 : m <= 512) {k : Nat} (e : m = 2 ^ k) : 2 <= k /\ k <= 9 := by
 subst e
 constructor
 ·rcases Nat.lt_or_ge k 2 with g | g
  ·have : 2 ^ k <= 2 ^ 1 := Nat.pow_le_pow_right (by decide) (by omega)
   omega
  ·exact g
 ·rcases Nat.lt_or_ge 9 k with g | g
  ·have : 2 ^ 10 <= 2 ^ k := Nat.pow_le_pow_right (by decide) g
   omega
  ·exact g
theorem pfits_any (q b nL cL : Nat) (size n : Int) (aL : Option Addr) (w : World) (h3 : 3 <= q) (h4 : q <= 2147483647) (hp : w.cell? ⟨b, 0, none⟩ = some (.int .i64 q)) (hnL : nL <= 281474976710656) :
  Calls Tryz.prog 18 #[.pointer (some ⟨b, 0, none⟩), .agg #[.int .i64 size, .slice aL nL cL], .int .i64 n] w fun e w' => e = .returned (.bool (fitQ q nL n)) /\ Below w.heap.size w w' := by
 obtain ⟨W0, hW0⟩ := exE (w.alloc (.cells #[.int .i64 size, .slice aL nL cL] 24))
 have hb0 := blA hW0
 have hs0 := haA hW0
 have hp0 : W0.cell? ⟨b, 0, none⟩ = some (.int .i64 q) := (hb0.cell (p := ⟨b, 0, none⟩) (World.block_lt_of_cell? _ _ hp)).trans hp
 have k1 := clA 1 hs0 rfl
 have HB0 := hid hb0
 have HPW := hid (p_any q b W0 hp0)
 clear hb0 hs0
 by_cases g1 : n < 4
 ·have HE := hid (fitQ_no (q := q) (nL := nL) (n := n) fun h => by have := h.bd; omega)
  generalize fitQ q nL n = R at *
  go_enter Tryz.func18, Tryz.ntmps18
  go_wp2_with fail
  rw [<- hW0]
  clear hW0
  go_ret
  exact ⟨by rw [HE.out]; rfl, HB0.out⟩
 by_cases g2 : 512 < n
 ·have HE := hid (fitQ_no (q := q) (nL := nL) (n := n) fun h => by have := h.bd; omega)
  generalize fitQ q nL n = R at *
  go_enter Tryz.func18, Tryz.ntmps18
  go_wp2_with fail
  rw [<- hW0]
  clear hW0
  go_ret
  exact ⟨by rw [HE.out]; rfl, HB0.out⟩
 obtain ⟨m, rfl⟩ := Int.eq_ofNat_of_zero_le (show 0 <= n by omega)
 have HO := hid (ones_any m W0 (by omega))
 by_cases ho : pnz m = 1
 ·obtain ⟨k, hk, hmk⟩ := (pnz_one (show m <= 65536 by omega)).1 ho
  obtain ⟨hk2, hk9⟩ := pow_range (show 4 <= m by omega) (show m <= 512 by omega) hmk
  rw [ho] at HO
  have w8 : IntKind.i64.wrap (8 * (m : Int)) = 8 * (m : Int) := by rw [IntKind.wrap_i64]; omega
  have w1 : IntKind.i64.wrap ((q : Int) - 1) = (q : Int) - 1 := by rw [IntKind.wrap_i64]; omega
  have hz8 : ((8 * (m : Int)) == 0) = false := by rw [beq_eq_false_iff_ne]; omega
  have em : ((q : Int) - 1).tmod (8 * (m : Int)) = (((q - 1) % (8 * m) : Nat) : Int) := by
   rw [Int.tmod_eq_emod_of_nonneg (by omega), show (q : Int) - 1 = ((q - 1 : Nat) : Int) from by omega, show 8 * (m : Int) = ((8 * m : Nat) : Int) from by omega, <- Int.natCast_emod]
  have HF : Hid (fitQ q nL (m : Int) = (decide ((((q - 1) % (8 * m) : Nat) : Int) = 0) && decide (8 * (m : Int) < (q : Int) - 1) && decide ((1 : Int) <= (nL : Int)) && decide ((nL : Int) <= 64 /\ (nL : Int) <= (q : Int)))) := by
   unfold Hid
   by_cases c : (q - 1) % (8 * m) = 0 /\ 8 * m < q - 1 /\ 1 <= nL /\ nL <= 64 /\ nL <= q
   ·rw [fitQ_yes ⟨k, hk2, hk9, by rw [hmk], by rw [<- hmk]; exact c.1, by rw [<- hmk]; exact c.2.1, c.2.2⟩]
    obtain ⟨c1, c2, c3, c4, c5⟩ := c
    rw [c1, decide_eq_true (show 8 * (m : Int) < (q : Int) - 1 by omega), decide_eq_true (show (1 : Int) <= (nL : Int) by omega), decide_eq_true (show (nL : Int) <= 64 /\ (nL : Int) <= (q : Int) by omega)]
    rfl
   ·rw [fitQ_no fun ⟨k', _, _, e, h⟩ => c (by
     have e' : m = 2 ^ k' := by omega
     rw [<- e'] at h; exact h)]
    symm
    apply Bool.eq_false_iff.2
    intro h
    simp only [Bool.and_eq_true, decide_eq_true_eq] at h
    exact c ⟨by omega, by omega, by omega, by omega, by omega⟩
  generalize (q - 1) % (8 * m) = rm at *
  generalize fitQ q nL (m : Int) = R at *
  clear ho hmk
  go_enter Tryz.func18, Tryz.ntmps18
  go_wp2_with fail
  rw [<- hW0]
  clear hW0
  refine HO.out.mono ?_
  rintro e w1 ⟨rfl, hw1⟩
  have hw1' := hw1.symm
  subst hw1'
  clear hw1
  go_wp2_with fail
  refine HPW.out.mono ?_
  rintro e w2 ⟨rfl, hw2⟩
  have hw2' := hw2.symm
  subst hw2'
  clear hw2
  by_cases c1 : rm = 0
  ·have q1 : ((rm : Int) == 0) = true := by rw [c1]; rfl
   go_wp2_with fail
   refine HPW.out.mono ?_
   rintro e w2 ⟨rfl, hw2⟩
   have hw2' := hw2.symm
   subst hw2'
   clear hw2
   by_cases c2 : 8 * m < q - 1
   ·have q2 : 8 * (m : Int) < (q : Int) - 1 := by omega
    by_cases c3 : 1 <= nL
    ·have q3 : (1 : Int) <= (nL : Int) := by omega
     go_wp2_with fail
     refine HPW.out.mono ?_
     rintro e w2 ⟨rfl, hw2⟩
     have hw2' := hw2.symm
     subst hw2'
     clear hw2
     by_cases c4 : 64 <= q
     ·have q4 : (64 : Int) <= (q : Int) := by omega
      have q4m : min (64 : Int) (q : Int) = 64 := by omega
      by_cases c5 : nL <= 64
      ·have q5 : (nL : Int) <= 64 := by omega
       have HR : Hid (R = true) := by unfold Hid; rw [HF.out, c1, decide_eq_true q2, decide_eq_true q3, decide_eq_true (show (nL : Int) <= 64 /\ (nL : Int) <= (q : Int) by omega)]; rfl
       go_wp2_with fail
       go_ret
       exact ⟨by rw [HR.out]; first | rfl | (simp; done) | (simp; omega), HB0.out⟩
      ·have q5 : ¬ (nL : Int) <= 64 := by omega
       have HR : Hid (R = false) := by unfold Hid; rw [HF.out, decide_eq_false (show ¬ ((nL : Int) <= 64 /\ (nL : Int) <= (q : Int)) by omega), Bool.and_false]
       go_wp2_with fail
       go_ret
       exact ⟨by rw [HR.out]; first | rfl | (simp; done) | (simp; omega), HB0.out⟩
     ·have q4 : ¬ (64 : Int) <= (q : Int) := by omega
      have q4m : min (64 : Int) (q : Int) = (q : Int) := by omega
      by_cases c5 : nL <= q
      ·have q5 : (nL : Int) <= (q : Int) := by omega
       have HR : Hid (R = true) := by unfold Hid; rw [HF.out, c1, decide_eq_true q2, decide_eq_true q3, decide_eq_true (show (nL : Int) <= 64 /\ (nL : Int) <= (q : Int) by omega)]; rfl
       go_wp2_with fail
       go_ret
       exact ⟨by rw [HR.out]; first | rfl | (simp; done) | (simp; omega), HB0.out⟩
      ·have q5 : ¬ (nL : Int) <= (q : Int) := by omega
       have HR : Hid (R = false) := by unfold Hid; rw [HF.out, decide_eq_false (show ¬ ((nL : Int) <= 64 /\ (nL : Int) <= (q : Int)) by omega), Bool.and_false]
       go_wp2_with fail
       go_ret
       exact ⟨by rw [HR.out]; first | rfl | (simp; done) | (simp; omega), HB0.out⟩
    ·have q3 : ¬ (1 : Int) <= (nL : Int) := by omega
     have HR : Hid (R = false) := by unfold Hid; rw [HF.out, decide_eq_false q3, Bool.and_false, Bool.false_and]
     go_wp2_with fail
     go_ret
     exact ⟨by rw [HR.out]; first | rfl | (simp; done) | (simp; omega), HB0.out⟩
   ·have q2 : ¬ 8 * (m : Int) < (q : Int) - 1 := by omega
    have HR : Hid (R = false) := by unfold Hid; rw [HF.out, decide_eq_false q2, Bool.and_false, Bool.false_and, Bool.false_and]
    go_wp2_with fail
    go_ret
    exact ⟨by rw [HR.out]; first | rfl | (simp; done) | (simp; omega), HB0.out⟩
  ·have q1 : ((rm : Int) == 0) = false := by rw [beq_eq_false_iff_ne]; omega
   have HR : Hid (R = false) := by unfold Hid; rw [HF.out, decide_eq_false (show ¬ ((rm : Int) = 0) by omega), Bool.false_and, Bool.false_and, Bool.false_and]
   go_wp2_with fail
   go_ret
   exact ⟨by rw [HR.out]; first | rfl | (simp; done) | (simp; omega), HB0.out⟩
 ·have hb : ((pnz m : Int) != 1) = true := by rw [bne_iff_ne]; omega
  have HE := hid (fitQ_no (q := q) (nL := nL) (n := (m : Int)) fun ⟨k, h1, h2, e, _⟩ => ho ((pnz_one (show m <= 65536 by omega)).2 ⟨k, by omega, by omega⟩))
  generalize fitQ q nL (m : Int) = R at *
  generalize pnz m = c at *
  go_enter Tryz.func18, Tryz.ntmps18
  go_wp2_with fail
  rw [<- hW0]
  clear hW0
  refine HO.out.mono ?_
  rintro e w1 ⟨rfl, hw1⟩
  have hw1' := hw1.symm
  subst hw1'
  clear hw1
  go_wp2_with fail
  go_ret
  exact ⟨by rw [HE.out]; rfl, HB0.out⟩
structure ClmAt (w : World) (c b s H D : Nat) (q : Nat) (n : Nat) (g rH rD : Nat) (size out : Int) (aL : Option Addr) (nL cL : Nat) : Prop where
 f : w.cell? ⟨c, 0, none⟩ = some (.pointer (some ⟨b, 0, none⟩))
 s : w.cell? ⟨c, 1, none⟩ = some (.pointer (some ⟨s, 0, none⟩))
 sz : w.cell? ⟨c, 2, none⟩ = some (.int .i64 size)
 ls : w.cell? ⟨c, 3, none⟩ = some (.slice aL nL cL)
 out : w.cell? ⟨c, 4, none⟩ = some (.int .i64 out)
 th : w.cell? ⟨c, 5, none⟩ = some (.pointer (some ⟨H, 0, none⟩))
 wd : w.cell? ⟨c, 6, none⟩ = some (.pointer (some ⟨D, 0, none⟩))
 p : w.cell? ⟨b, 0, none⟩ = some (.int .i64 q)
 dH : DomAt w H b (n : Int) rH 1
 dD : DomAt w D b ((8 * n : Nat) : Int) rD (g : Int)
theorem ClmAt.lt {w : World} {c b s H D q n g rH rD : Nat} {size out : Int} {aL : Option Addr} {nL cL : Nat} (h : ClmAt w c b s H D q n g rH rD size out aL nL cL) : c < w.heap.size /\ b < w.heap.size /\ H < w.heap.size /\ D < w.heap.size := ⟨heap_lt h.f, heap_lt h.p, h.dH.lt, h.dD.lt⟩
theorem ClmAt.below {w w' : World} {c b s H D q n g rH rD : Nat} {size out : Int} {aL : Option Addr} {nL cL n0 : Nat} (h : ClmAt w c b s H D q n g rH rD size out aL nL cL) (e : Below n0 w w') (hc : c < n0) (hb : b < n0) (hH : H < n0) (hD : D < n0) : ClmAt w' c b s H D q n g rH rD size out aL nL cL :=
 ⟨(e.cell (p := ⟨c, 0, none⟩) hc).trans h.f, (e.cell (p := ⟨c, 1, none⟩) hc).trans h.s, (e.cell (p := ⟨c, 2, none⟩) hc).trans h.sz, (e.cell (p := ⟨c, 3, none⟩) hc).trans h.ls, (e.cell (p := ⟨c, 4, none⟩) hc).trans h.out, (e.cell (p := ⟨c, 5, none⟩) hc).trans h.th, (e.cell (p := ⟨c, 6, none⟩) hc).trans h.wd, (e.cell (p := ⟨b, 0, none⟩) hb).trans h.p, h.dH.below e hH, h.dD.below e hD⟩
theorem newClaim_any (q b nL cL k : Nat) (size out : Int) (aL : Option Addr) (w : World) (hpr : Num.Prime q) (h4 : q <= 2147483647) (hp : w.cell? ⟨b, 0, none⟩ = some (.int .i64 q)) (hk2 : 2 <= k) (hk9 : k <= 9) (hd : (q - 1) % 2 ^ k = 0) (hd8 : (q - 1) % 2 ^ (k + 3) = 0) (hlt : 8 * 2 ^ k < q - 1) :
  Calls Tryz.prog 21 #[.pointer (some ⟨b, 0, none⟩), .agg #[.int .i64 size, .slice aL nL cL], .int .i64 out, .int .i64 ((2 ^ k : Nat) : Int)] w fun e w' =>
   ∃ c s H D g rH rD n' d', e = .returned (.tuple #[.pointer (some ⟨c, 0, none⟩), .nilIface]) /\ ClmAt w' c b s H D q (2 ^ k) g rH rD size out aL nL cL /\ (w.heap.size <= c /\ w.heap.size <= H /\ w.heap.size <= D /\ w.heap.size <= s) /\ SpgOk q n' d' /\ SpgAt w' s b q n' d' /\ Num.GenIs q g /\ RootIs q ((2 ^ k : Nat) : Int) rH /\ RootIs q ((2 ^ (k + 3) : Nat) : Int) rD /\ Below w.heap.size w w' := by
 have a4 : 2 ^ 2 <= 2 ^ k := Nat.pow_le_pow_right (by decide) hk2
 have b9 : 2 ^ k <= 2 ^ 9 := Nat.pow_le_pow_right (by decide) hk9
 have h3 : 3 <= q := by omega
 have hbl : b < w.heap.size := heap_lt hp
 obtain ⟨W0, hW0⟩ := exE (w.alloc (.cells #[.int .i64 size, .slice aL nL cL] 24))
 have hb0 := blA hW0
 have hs0 := haA hW0
 have hl0 : w.heap.size < W0.heap.size := (Array.getElem?_eq_some_iff.1 hs0).1
 have HB0 := hid hb0
 have HP0 := hid ((hb0.cell (p := ⟨b, 0, none⟩) hbl).trans hp)
 have HS0 := hid hs0
 have HSN := hid (snew_any q b W0 hpr (by omega) h4 HP0.out)
 have HD1 := hid (fun W (h : W.cell? ⟨b, 0, none⟩ = some (.int .i64 q)) => dnew_ok q b k 1 W hpr h3 h4 h (by omega) hd (by decide) (by decide) (by rw [Int.emod_eq_of_lt (by decide) (by omega)]; decide))
 have HGN := hid (fun W (h : W.cell? ⟨b, 0, none⟩ = some (.int .i64 q)) (hb : b < W.heap.size) => gen_any q b W h3 h4 h hb)
 have HD2 := hid (fun W (h : W.cell? ⟨b, 0, none⟩ = some (.int .i64 q)) (g : Nat) (hg1 : 1 <= g) (hg2 : g < q) => dnew_ok q b (k + 3) (g : Int) W hpr h3 h4 h (by omega) hd8 (by omega) (by omega) (by rw [Int.emod_eq_of_lt (by omega) (by omega)]; omega))
 have HGP : Hid (∀ g, Num.GenIs q g -> 1 <= g /\ g < q) := fun g hg => ⟨(Num.genIs_some hpr h3 hg).1, (Num.genIs_some hpr h3 hg).2.1⟩
 have e8 : 2 ^ (k + 3) = 8 * 2 ^ k := by rw [Nat.pow_add]; omega
 have w8 : IntKind.i64.wrap (8 * ((2 ^ k : Nat) : Int)) = ((2 ^ (k + 3) : Nat) : Int) := by rw [IntKind.wrap_i64, e8]; omega
 have HE8 := hid e8
 clear hp hb0 hs0 hd hd8 hpr e8
 generalize 2 ^ (k + 3) = N8 at *
 generalize 2 ^ k = N at *
 go_enter Tryz.func21, Tryz.ntmps21
 go_wp2_with fail
 rw [<- hW0]
 clear hW0
 refine HSN.out.mono ?_
 rintro e w1 ⟨s, n', d', rfl, hsl, hok, hsa, hb1⟩
 have HB1 := hid hb1
 have HOK := hid hok
 have HSA := hid hsa
 have HP1 := hid ((hb1.cell (p := ⟨b, 0, none⟩) (show b < W0.heap.size by omega)).trans HP0.out)
 have hz1 := hb1.size
 clear hok hsa hb1 HSN
 go_wp2_with fail
 refine (HD1.out w1 HP1.out).mono ?_
 rintro e w2 ⟨H, rH, rfl, hHl, hRH, hdH, hb2⟩
 have HB2 := hid (HB1.out.trans (hb2.mono HB1.out.size))
 have HRH := hid hRH
 have HDH := hid hdH
 have HP2 := hid ((hb2.cell (p := ⟨b, 0, none⟩) (show b < w1.heap.size by omega)).trans HP1.out)
 have HSA2 := hid hb2
 have hz2 := hb2.size
 clear hRH hdH hb2 HD1
 go_wp2_with fail
 refine (HGN.out w2 HP2.out (by omega)).mono ?_
 rintro e w3 ⟨g, rfl, hg, hb3⟩
 have HG := hid hg
 obtain ⟨hg1, hg2⟩ := HGP.out g hg
 have HB3 := hid (HB2.out.trans (hb3.mono HB2.out.size))
 have HB23 := hid hb3
 have HP3 := hid ((hb3.cell (p := ⟨b, 0, none⟩) (show b < w2.heap.size by omega)).trans HP2.out)
 have hz3 := hb3.size
 clear hg hb3 HGN HGP
 go_wp2_with fail
 refine (HD2.out w3 HP3.out g hg1 hg2).mono ?_
 rintro e w4 ⟨D, rD, rfl, hDl, hRD, hdD, hb4⟩
 have HRD := hid hRD
 have HDD := hid hdD
 have HB4 := hid (HB3.out.trans (hb4.mono HB3.out.size))
 have hz4 := hb4.size
 have hk0 : w4.heap[w.heap.size]? = some (.cells #[.int .i64 size, .slice aL nL cL] 24 (0, 0)) := (HB4.out.block _ hl0).trans HS0.out
 have k0 := clA 0 hk0 rfl
 have k1 := clA 1 hk0 rfl
 clear hk0
 obtain ⟨W5, hW5⟩ := exE (w4.alloc (.cells #[.pointer (some ⟨b, 0, none⟩), .pointer (some ⟨s, 0, none⟩), .int .i64 size, .slice aL nL cL, .int .i64 out, .pointer (some ⟨H, 0, none⟩), .pointer (some ⟨D, 0, none⟩)] 86))
 have hb5 := blA hW5
 have hc5 := haA hW5
 have e1 : (1 : Int) % (q : Int) = 1 := Int.emod_eq_of_lt (by decide) (by omega)
 have eg : (g : Int) % (q : Int) = (g : Int) := Int.emod_eq_of_lt (by omega) (by omega)
 have hdH2 := HDH.out
 rw [e1] at hdH2
 have hdD2 := HDD.out
 rw [eg] at hdD2
 have hHl2 := hdH2.lt
 have hDl2 := hdD2.lt
 have hb34 := HB23.out.trans (hb4.mono HB23.out.size)
 have hb24 := hb34.trans (hb5.mono (by have := hb34.size; omega))
 have hdH5 := hdH2.below hb24 hHl2
 have hdD5 := hdD2.below hb5 hDl2
 have HCL : Hid (ClmAt W5 w4.heap.size b s H D q N g rH rD size out aL nL cL) := by
  refine ⟨by simp [World.cell?, hc5], by simp [World.cell?, hc5], by simp [World.cell?, hc5], by simp [World.cell?, hc5], by simp [World.cell?, hc5], by simp [World.cell?, hc5], by simp [World.cell?, hc5], ?_, hdH5, ?_⟩
  ·exact (hb24.cell (p := ⟨b, 0, none⟩) (show b < w2.heap.size by omega)).trans HP2.out
  ·have := hdD5; rw [HE8.out] at this; exact this
 have hb15 := HSA2.out.trans (hb24.mono HSA2.out.size)
 have HSP : Hid (SpgAt W5 s b q n' d') := HSA.out.below hb15 HSA.out.lt (show b < w1.heap.size by omega)
 have HBF := hid (HB0.out.trans ((HB4.out.trans (hb5.mono HB4.out.size)).mono HB0.out.size))
 have hlo : w.heap.size <= w4.heap.size /\ w.heap.size <= H /\ w.heap.size <= D /\ w.heap.size <= s := ⟨by omega, by omega, by omega, by omega⟩
 clear hb5 hc5 hdH2 hdD2 hb34 hb24 hdH5 hdD5 hb15 hb4 hRD hdD e1 eg
 go_wp2_with fail
 rw [<- hW5]
 clear hW5
 go_ret2
 exact ⟨w4.heap.size, s, H, D, g, rH, rD, n', d', rfl, HCL.out, hlo, HOK.out, HSP.out, HG.out, HRH.out, HRD.out, HBF.out⟩
end Go.Proofs.YtjlngcmkgkiplaaGreatDoor
