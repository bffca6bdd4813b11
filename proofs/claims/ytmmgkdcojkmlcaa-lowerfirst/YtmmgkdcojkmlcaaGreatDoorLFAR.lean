/- Package lower: what comes first; all calls in their places. Package lower: the code, plainly: what is kept, how long it is. Programs as text: tokens as they are spelled. The reference of programs as text: bytes, the next token. The reference of programs as text: the next token. -/
import Derived.Test.YtmmgkdcojkmlcaaGreatDoorLFAQ
import Derived.Test.YtmmgkdcojkmlcaaGreatDoorLFAA
import Derived.Test.YtmmgkdcojkmlcaaGreatDoorLFAC
namespace Go.Proofs.YtmmgkdcojkmlcaaGreatDoor
open Go.RowKit

def setN (p : Nat) (s : LwS) : Nat → LwS
  | 0 => s
  | i + 1 => (setN p s i).wr p 5 (i : Int) 0 0
def pasN (p : Nat) (s : LwS) : Nat → LwS
  | 0 => s
  | i + 1 => (pasN p s i).wr p 13 (i : Int) (i : Int) 0
theorem wr_len (s : LwS) (p : Nat) (op a b c : Int) : (s.wr p op a b c).L.length = s.L.length + 1 ∧ (s.wr p op a b c).cl = s.cl := by simp [LwS.wr, LwS.fl, LwS.lv]
theorem setN_len (p : Nat) (s : LwS) : ∀ n, (setN p s n).L.length = s.L.length + n ∧ (setN p s n).cl = s.cl
  | 0 => ⟨rfl, rfl⟩
  | i + 1 => by
    obtain ⟨h1, h2⟩ := setN_len p s i
    obtain ⟨h3, h4⟩ := wr_len (setN p s i) p 5 (i : Int) 0 0
    exact ⟨by rw [setN, h3, h1]; omega, by rw [setN, h4, h2]⟩
theorem pasN_len (p : Nat) (s : LwS) : ∀ n, (pasN p s n).L.length = s.L.length + n ∧ (pasN p s n).cl = s.cl
  | 0 => ⟨rfl, rfl⟩
  | i + 1 => by
    obtain ⟨h1, h2⟩ := pasN_len p s i
    obtain ⟨h3, h4⟩ := wr_len (pasN p s i) p 13 (i : Int) (i : Int) 0
    exact ⟨by rw [pasN, h3, h1]; omega, by rw [pasN, h4, h2]⟩
def begL (p n : Nat) (s : LwS) : LwS := (((pasN p (setN p s n) n).ca mainW).wr p 12 (n : Int) 0 0).wr p 0 (n : Int) 0 0

set_option maxRecDepth 100000 in
set_option maxHeartbeats 4000000 in
theorem begin_any (p N fd wq fb n : Nat) (hp3 : 3 ≤ p) (hpm : p ≤ 2147483647) (s : LwS) (w : World) (h : LoW p N fd wq fb w s) (hn : n ≤ 4000) (hl : s.L.length ≤ 100000) (hc : s.cl.length ≤ 100000) :
    Calls Tryz.prog 24 #[.pointer (some ⟨wq, 0, none⟩), .int .i64 (n : Int)] w fun e w' => (∃ v, e = .returned v) ∧ LoW p N fd wq fb w' (begL p n s) ∧ LoK false none N w w' := by
  have hms := mainS
  have HP : Hid (3 ≤ p ∧ p ≤ 2147483647) := ⟨hp3, hpm⟩
  have HW := hid h
  have HL : Hid (s.L.length ≤ 100000 ∧ s.cl.length ≤ 100000) := ⟨hl, hc⟩
  have HSL := hid (setN_len p s)
  have HPL := hid (fun i => pasN_len p (setN p s n) i)
  have HNw : Hid (N ≤ w.heap.size) := Nat.le_of_lt (Nat.lt_of_le_of_lt h.hN h.lt)
  clear h hl hc hp3 hpm
  go_enter Tryz.func24, Tryz.ntmps24
  go_wp2_with fail
  go_loopw [7] (fun iv wr => ∃ (i : Nat), i ≤ n ∧ iv = .int .i64 (i : Int) ∧ Hid (LoW p N fd wq fb wr (setN p s i)) ∧ Hid (LoK false none N w wr)) (fun iv _ => n - (intOf iv).toNat)
  case atStart => exact ⟨0, Nat.zero_le _, rfl, HW, LoK.refl _ _ _ _⟩
  case round =>
    obtain ⟨i, hin, rfl, HI, HK⟩ := hrel
    by_cases hlt : i < n
    · have hlt2 : (i : Int) < (n : Int) := by omega
      have hks : IntKind.i64.wrap ((i : Int) + 1) = (i : Int) + 1 := by rw [IntKind.wrap_i64]; omega
      have HC := hid (write_any p N fd wq fb 5 (i : Int) 0 0 (setN p s i) wr HP.out.1 HP.out.2 HI.out (by have := (HSL.out i).1; have := HL.out.1; omega) (i64_of (by omega)) (i64_of (by omega)) (i64_of (by omega)))
      go_wp2_with fail
      refine HC.out.mono ?_
      rintro e w1 ⟨⟨v, rfl⟩, hb1, hk1⟩
      have HK1 := hid (HK.out.trans hk1)
      have HI1 : Hid (LoW p N fd wq fb w1 (setN p s (i + 1))) := hb1
      clear hb1 hk1 HC
      go_wp2_with fail
      go_roundw
      case rel => exact ⟨i + 1, by omega, by go_num, HI1, HK1⟩
      case measure => simp [intOf]; omega
    · obtain rfl : i = n := by omega
      have hlt2 : ¬ (i : Int) < (i : Int) := by omega
      obtain ⟨wo, hwo⟩ : ∃ wo, wo = wr := ⟨_, rfl⟩
      rw [← hwo] at HI HK ⊢
      clear hwo
      go_wp2_with fail
      go_loopw [15] (fun iv wr => ∃ (j : Nat), j ≤ i ∧ iv = .int .i64 (j : Int) ∧ Hid (LoW p N fd wq fb wr (pasN p (setN p s i) j)) ∧ Hid (LoK false none N w wr)) (fun iv _ => i - (intOf iv).toNat)
      case atStart => exact ⟨0, Nat.zero_le _, rfl, HI, HK⟩
      case round =>
        obtain ⟨j, hjn, rfl, HJ, HKJ⟩ := hrel
        by_cases hlt : j < i
        · have hlt2 : (j : Int) < (i : Int) := by omega
          have hks : IntKind.i64.wrap ((j : Int) + 1) = (j : Int) + 1 := by rw [IntKind.wrap_i64]; omega
          have HC := hid (write_any p N fd wq fb 13 (j : Int) (j : Int) 0 (pasN p (setN p s i) j) wr HP.out.1 HP.out.2 HJ.out (by have := (HSL.out i).1; have := (HPL.out j).1; have := HL.out.1; omega) (i64_of (by omega)) (i64_of (by omega)) (i64_of (by omega)))
          go_wp2_with fail
          refine HC.out.mono ?_
          rintro e w1 ⟨⟨v, rfl⟩, hb1, hk1⟩
          have HK1 := hid (HKJ.out.trans hk1)
          have HI1 : Hid (LoW p N fd wq fb w1 (pasN p (setN p s i) (j + 1))) := hb1
          clear hb1 hk1 HC
          go_wp2_with fail
          go_roundw
          case rel => exact ⟨j + 1, by omega, by go_num, HI1, HK1⟩
          case measure => simp [intOf]; omega
        · obtain rfl : j = i := by omega
          have hlt2 : ¬ (j : Int) < (j : Int) := by omega
          obtain ⟨sp, hsp⟩ : ∃ sp, sp = pasN p (setN p s j) j := ⟨_, rfl⟩
          have HE : Hid ((((sp.ca mainW).wr p 12 (j : Int) 0 0).wr p 0 (j : Int) 0 0) = begL p j s) := by unfold Hid begL; rw [hsp]
          have HLS : Hid (sp.L.length ≤ 110000 ∧ sp.cl.length ≤ 100000) := by
            obtain ⟨h1, h2⟩ := HPL.out j
            obtain ⟨h3, h4⟩ := HSL.out j
            unfold Hid
            rw [hsp, h1, h2, h3, h4]
            have := HL.out
            omega
          rw [← hsp] at HJ
          have HC := hid (call_any p N fd wq fb mainW sp wr HJ.out (by have := HLS.out.1; omega) (by have := HLS.out.2; omega))
          clear hsp
          go_wp2_with (rw [hms])
          refine HC.out.mono ?_
          rintro e w1 ⟨⟨v, rfl⟩, hb1, hk1⟩
          have HD := hid (write_any p N fd wq fb 12 (j : Int) 0 0 _ w1 HP.out.1 HP.out.2 hb1 (by have := HLS.out.1; simp [LwS.ca, LwS.lv]; omega) (i64_of (by omega)) (i64_of (by omega)) (i64_of (by omega)))
          have HK1 := hid (HKJ.out.trans hk1)
          clear hb1 hk1 HC
          go_wp2_with fail
          refine HD.out.mono ?_
          rintro e w2 ⟨⟨v, rfl⟩, hb2, hk2⟩
          have HF := hid (write_any p N fd wq fb 0 (j : Int) 0 0 _ w2 HP.out.1 HP.out.2 hb2 (by have := HLS.out.1; simp [LwS.ca, LwS.lv, LwS.wr, LwS.fl]; omega) (i64_of (by omega)) (i64_of (by omega)) (i64_of (by omega)))
          have HK2 := hid (HK1.out.trans hk2)
          clear hb2 hk2 HD
          go_wp2_with fail
          refine HF.out.mono ?_
          rintro e w3 ⟨⟨v, rfl⟩, hb3, hk3⟩
          go_wp2_with fail
          go_end0
          exact ⟨⟨_, rfl⟩, by rw [← HE.out]; exact hb3, HK2.out.trans hk3⟩

def clat (s : LwS) (i : Nat) : Nat × List UInt8 := (s.cl[i]?).getD (0, [])
def fra (F : List UInt8 → Option (Nat × Nat)) (x : List UInt8) : Nat × Nat := (F x).getD (0, 0)
/-- the first calls are put in their places -/
def flN (p : Nat) (F : List UInt8 → Option (Nat × Nat)) (s : LwS) : Nat → LwS
  | 0 => s
  | i + 1 => (flN p F s i).fl p (clat s i).1 10 ((fra F (clat s i).2).1 : Int) ((fra F (clat s i).2).2 : Int) 0
theorem flN_len (p : Nat) (F : List UInt8 → Option (Nat × Nat)) (s : LwS) : ∀ i, (flN p F s i).L.length = s.L.length ∧ (flN p F s i).cl = s.cl
  | 0 => ⟨rfl, rfl⟩
  | i + 1 => by
    obtain ⟨h1, h2⟩ := flN_len p F s i
    exact ⟨by rw [flN]; simp [LwS.fl, h1], h2⟩
/-- calls have places and names that are not too long -/
def ClOk (s : LwS) : Prop := ∀ c, c ∈ s.cl → c.1 < s.L.length ∧ c.2.length ≤ 4000
def FrOk (F : List UInt8 → Option (Nat × Nat)) : Prop := ∀ x v, F x = some v → v.1 ≤ 1000000 ∧ v.2 ≤ 1000000
theorem FrOk.get {F : List UInt8 → Option (Nat × Nat)} (h : FrOk F) (x : List UInt8) : (fra F x).1 ≤ 1000000 ∧ (fra F x).2 ≤ 1000000 := by
  unfold fra
  cases e : F x with
  | none => simp
  | some v => exact h x v e
/-- calls in memory -/
def CaS (W : World) (a : Option Addr) (l : List (Nat × List UInt8)) : Prop := ∀ i c, l[i]? = some c → ∃ cb cs f, a = some ⟨cb, 0, none⟩ ∧ W.heap[cb]? = some (.cells cs 122 f) ∧ cs[i * 2]? = some (.int .i64 (c.1 : Int)) ∧ cs[i * 2 + 1]? = some (.string (bs c.2))
theorem CaS.keep {W W' : World} {a : Option Addr} {l : List (Nat × List UInt8)} (h : CaS W a l) (hk : ∀ (x : Nat) (cs : Array Value) (f : Nat × Nat), W.heap[x]? = some (.cells cs 122 f) → W'.heap[x]? = W.heap[x]?) : CaS W' a l := fun i c hc => by
  obtain ⟨cb, cs, f, h1, h2, h3, h4⟩ := h i c hc
  exact ⟨cb, cs, f, h1, (hk cb cs f h2).trans h2, h3, h4⟩
theorem clV_at : ∀ (l : List (Nat × List UInt8)) (i : Nat) (c : Nat × List UInt8), l[i]? = some c → (clV l)[i * 2]? = some (.int .i64 (c.1 : Int)) ∧ (clV l)[i * 2 + 1]? = some (.string (bs c.2))
  | [], i, c, h => by simp at h
  | x :: r, 0, c, h => by
    simp at h
    subst h
    exact ⟨rfl, rfl⟩
  | x :: r, i + 1, c, h => by
    have ih := clV_at r i c (by simpa using h)
    have h0 : clV (x :: r) = .int .i64 (x.1 : Int) :: .string (bs x.2) :: clV r := rfl
    rw [h0, show (i + 1) * 2 = i * 2 + 1 + 1 by omega]
    exact ih
theorem LoW.calls {p N fd wq fb : Nat} {w : World} {s : LwS} (h : LoW p N fd wq fb w s) : ∃ a c, w.cell? ⟨wq, 2, none⟩ = some (.slice a s.cl.length c) ∧ CaS w a s.cl := by
  obtain ⟨lv, cv, h3, h4, h5⟩ := h.str
  rcases h5.2 with ⟨h0, hx⟩ | ⟨gg, cap, cur, hsl, hN, hb, hcap, _, hsz, htk⟩
  · refine ⟨none, 0, by rw [hx]; simp [World.cell?, h3, h0], fun i c hc => ?_⟩
    rw [List.length_eq_zero_iff.1 hx] at hc
    cases hc
  · refine ⟨some ⟨gg, 0, none⟩, cap, by simp [World.cell?, h3, hsl], fun i c hc => ⟨gg, cur, (0, 0), rfl, hb, ?_⟩⟩
    have hi := (List.getElem?_eq_some_iff.1 hc).1
    obtain ⟨e1, e2⟩ := clV_at s.cl i c hc
    have ht : ∀ j, j < s.cl.length * 2 → cur[j]? = (clV s.cl)[j]? := fun j hj => by
      rw [← htk, List.getElem?_take, if_pos hj]
      simp
    exact ⟨by rw [ht _ (by omega)]; exact e1, by rw [ht _ (by omega)]; exact e2⟩
theorem FrmA.look {w : World} {B : Nat} {F : List UInt8 → Option (Nat × Nat)} (h : FrmA w B F) {x : List UInt8} (hx : x.length ≤ 4000) : (Instr.lookup 83 (.map (some B)) (.string (bs x)) false).run Tryz.prog w = .ok (.agg #[.int .i64 ((fra F x).1 : Int), .int .i64 ((fra F x).2 : Int)]) w := by
  have := MapT.lookup frmK h hx false
  simpa [nmk, frmV, fra] using this
/-- where fillCalls stands -/
structure FcI (p N fd wq fb : Nat) (a : Option Addr) (F : List UInt8 → Option (Nat × Nat)) (s0 : LwS) (w W : World) (s : LwS) : Prop where
  lw : LoW p N fd wq fb W s
  mf : FrmA W fb F
  ca : CaS W a s0.cl
  lk : LoK false none N w W
theorem FcI.below {p N fd wq fb : Nat} {a : Option Addr} {F : List UInt8 → Option (Nat × Nat)} {s0 s : LwS} {w W W' : World} (h : FcI p N fd wq fb a F s0 w W s) (e : Below W.heap.size W W') : FcI p N fd wq fb a F s0 w W' s := by
  have hNw : N ≤ W.heap.size := Nat.le_of_lt (Nat.lt_of_le_of_lt h.lw.hN h.lw.lt)
  exact ⟨h.lw.below e, MapT.below h.mf e, h.ca.keep (fun x cs f hx => e.block x (Array.getElem?_eq_some_iff.1 hx).1), h.lk.trans (LoK.below e hNw)⟩
theorem FcI.step {p N fd wq fb : Nat} {a : Option Addr} {F : List UInt8 → Option (Nat × Nat)} {s0 s s' : LwS} {w W W' : World} (h : FcI p N fd wq fb a F s0 w W s) (h1 : LoW p N fd wq fb W' s') (h2 : LoK false none N W W') (h3 : ∀ (x : Nat) (o : Obj), W.heap[x]? = some o → (∀ (cs : Array Value) (f : Nat × Nat), o ≠ .cells cs 35 f) → W'.heap[x]? = some o) : FcI p N fd wq fb a F s0 w W' s' := by
  obtain ⟨es, cl, hm, _⟩ := h.mf
  exact ⟨h1, h.mf.keep ((h3 fb _ hm (fun _ _ e => by cases e)).trans hm.symm), h.ca.keep (fun x cs f hx => (h3 x _ hx (fun _ _ e => by injection e with _ e _; exact absurd e (by decide))).trans hx.symm), h.lk.trans h2⟩

set_option maxRecDepth 100000 in
set_option maxHeartbeats 8000000 in
theorem fillCalls_any (p N fd wq fb : Nat) (hp3 : 3 ≤ p) (hpm : p ≤ 2147483647) (F : List UInt8 → Option (Nat × Nat)) (hF : FrOk F) (s : LwS) (hs : ClOk s) (w : World) (h : LoW p N fd wq fb w s) (hf : FrmA w fb F) (hl : s.L.length ≤ 1000000) (hc : s.cl.length ≤ 1000000) :
    Calls Tryz.prog 28 #[.pointer (some ⟨wq, 0, none⟩)] w fun e w' => (∃ v, e = .returned v) ∧ LoW p N fd wq fb w' (flN p F s s.cl.length) ∧ LoK false none N w w' := by
  have hmx : Tryz.prog.follows .mixedOrders = true := by kernel_rfl
  obtain ⟨a, c, hc2, hca⟩ := h.calls
  have HI0 : Hid (FcI p N fd wq fb a F s w w (flN p F s 0)) := ⟨h, hf, hca, LoK.refl _ _ _ _⟩
  obtain ⟨m, hm⟩ : ∃ m, m = s.cl.length := ⟨_, rfl⟩
  rw [← hm] at hc2 hc ⊢
  have HM := hid hm
  have HP : Hid (3 ≤ p ∧ p ≤ 2147483647) := ⟨hp3, hpm⟩
  have HFO := hid hF
  have HSO := hid hs
  have HL : Hid (s.L.length ≤ 1000000) := hl
  have HLN := hid (fun i => flN_len p F s i)
  clear h hf hca hF hs hm hl hp3 hpm
  go_enter Tryz.func28, Tryz.ntmps28
  go_wp2_with fail
  clear hc2
  go_loopw [10] (fun iv wr => ∃ (i : Nat), i ≤ m ∧ iv = .int .i64 (i : Int) ∧ Hid (FcI p N fd wq fb a F s w wr (flN p F s i))) (fun iv _ => m - (intOf iv).toNat)
  case atStart => exact ⟨0, Nat.zero_le _, rfl, HI0⟩
  case round =>
    obtain ⟨i, him, rfl, HI⟩ := hrel
    clear HI0
    by_cases hlt : i < m
    · have hlt2 : (i : Int) < (m : Int) := by omega
      have hks : IntKind.i64.wrap ((i : Int) + 1) = (i : Int) + 1 := by rw [IntKind.wrap_i64]; omega
      obtain ⟨x, hx⟩ : ∃ x, s.cl[i]? = some x := ⟨_, List.getElem?_eq_getElem (by rw [← HM.out]; exact hlt)⟩
      have hxa : clat s i = x := by unfold clat; rw [hx]; rfl
      obtain ⟨cb, cs, f, rfl, g1, g2, g3⟩ := HI.out.ca i x hx
      have c0 : wr.cell? ⟨cb, i * 2, none⟩ = some (.int .i64 (x.1 : Int)) := by simp [World.cell?, g1, g2]
      have c1 : wr.cell? ⟨cb, i * 2 + 1, none⟩ = some (.string (bs x.2)) := by simp [World.cell?, g1, g3]
      obtain ⟨hs1, hs2⟩ := HSO.out x (List.mem_of_getElem? hx)
      obtain ⟨B3, hB3⟩ : ∃ B, B = wr.heap.size := ⟨_, rfl⟩
      obtain ⟨W1, hW1⟩ : ∃ W, W = wr.alloc (.cells #[.int .i64 (x.1 : Int), .string (bs x.2)] 122) := ⟨_, rfl⟩
      have hn1 : W1.heap[B3]? = some (.cells #[.int .i64 (x.1 : Int), .string (bs x.2)] 122 (0, 0)) := by rw [hW1, hB3]; exact heap_alloc_new wr _
      have hb1 : Below wr.heap.size wr W1 := by rw [hW1]; exact (Below.refl _ _).alloc (Nat.le_refl _) _
      have HI1 := hid (HI.out.below hb1)
      have HN1 := hid hn1
      have HB3 := hid hB3
      have HW1 := hid hW1
      obtain ⟨n1, n2⟩ := HFO.out.get x.2
      have HXA := hid hxa
      have HS1 : Hid (x.1 < s.L.length ∧ x.2.length ≤ 4000) := ⟨hs1, hs2⟩
      have HCA := hid (fun (W : World) (hW : Below W1.heap.size W1 W) => (HI1.out.below hW))
      have HLK : Hid (∀ W, FrmA W fb F → (Instr.lookup 83 (.map (some fb)) (.string (bs x.2)) false).run Tryz.prog W = .ok (.agg #[.int .i64 ((fra F x.2).1 : Int), .int .i64 ((fra F x.2).2 : Int)]) W) := fun W h => h.look HS1.out.2
      have HNN : Hid ((fra F x.2).1 ≤ 1000000 ∧ (fra F x.2).2 ≤ 1000000) := ⟨n1, n2⟩
      clear g1 g2 g3 hx hxa hb1 hn1 hB3 hW1 hs1 hs2 n1 n2
      go_wp2_with (rw [← HW1.out, ← HB3.out])
      obtain ⟨fa, hfa⟩ : ∃ fa, fa = (fra F x.2).1 := ⟨_, rfl⟩
      obtain ⟨fbb, hfbb⟩ : ∃ fbb, fbb = (fra F x.2).2 := ⟨_, rfl⟩
      rw [← hfa, ← hfbb] at HLK HNN
      have HFA : Hid (fa = (fra F (clat s i).2).1 ∧ fbb = (fra F (clat s i).2).2 ∧ x.1 = (clat s i).1) := by unfold Hid; rw [HXA.out]; exact ⟨hfa, hfbb, rfl⟩
      obtain ⟨xa, hxa⟩ : ∃ xa, xa = x.1 := ⟨_, rfl⟩
      rw [← hxa] at HFA HN1 HS1
      obtain ⟨xn, hxn⟩ : ∃ xn, xn = bs x.2 := ⟨_, rfl⟩
      rw [← hxn] at HLK HN1
      clear hfa hfbb HXA c0 c1
      obtain ⟨B4, hB4⟩ : ∃ B, B = W1.heap.size := ⟨_, rfl⟩
      obtain ⟨W2, hW2⟩ : ∃ W, W = (W1.alloc (.cells #[.int .i64 0, .int .i64 0] 120)).drew := ⟨_, rfl⟩
      obtain ⟨W3, hW3⟩ : ∃ W, W = (W1.alloc (.cells #[.int .i64 (fa : Int), .int .i64 (fbb : Int)] 120)).drew := ⟨_, rfl⟩
      have hb2 : Below W1.heap.size W1 W2 := by rw [hW2]; exact below_drewN ((Below.refl _ W1).alloc (Nat.le_refl _) _) 1
      have hb3 : Below W1.heap.size W1 W3 := by rw [hW3]; exact below_drewN ((Below.refl _ W1).alloc (Nat.le_refl _) _) 1
      have hn3 : W3.heap[B4]? = some (.cells #[.int .i64 (fa : Int), .int .i64 (fbb : Int)] 120 (0, 0)) := by rw [hW3, hB4]; exact heap_alloc_new W1 _
      have HSX : Hid (∀ W, Below W1.heap.size W1 W → (fun W => W.cell? ⟨wq, 3, none⟩ = some (.map (some fb)) ∧ W.cell? ⟨B3, 0, none⟩ = some (.int .i64 (xa : Int)) ∧ W.cell? ⟨B3, 1, none⟩ = some (.string xn) ∧ (Instr.lookup 83 (.map (some fb)) (.string xn) false).run Tryz.prog W = .ok (.agg #[.int .i64 (fa : Int), .int .i64 (fbb : Int)]) W) W) := fun W hW => by
        have hi := HI1.out.below hW
        obtain ⟨lv, cv, h3, _⟩ := hi.lw.str
        have hb := (hW.block B3 (Array.getElem?_eq_some_iff.1 HN1.out).1).trans HN1.out
        exact ⟨by simp [World.cell?, h3], by simp [World.cell?, hb], by simp [World.cell?, hb], HLK.out W hi.mf⟩
      have HS2 := hid (HSX.out W2 hb2)
      have HS3 := hid (HSX.out W3 hb3)
      have HS0 := hid (HSX.out W1.drew (below_drewN (Below.refl _ W1) 1))
      have HI3 := hid (HI1.out.below hb3)
      have HN3 := hid hn3
      have HB4 := hid hB4
      have HW2 := hid hW2
      have HW3 := hid hW3
      have HN13 : Hid (W3.heap[B3]? = some (.cells #[.int .i64 (xa : Int), .string xn] 122 (0, 0))) := (hb3.block B3 (Array.getElem?_eq_some_iff.1 HN1.out).1).trans HN1.out
      clear hb2 hb3 hn3 hB4 hW2 hW3 hxa hxn
      refine wp_region_held_drew (S := fun W => W.cell? ⟨wq, 3, none⟩ = some (.map (some fb)) ∧ W.cell? ⟨B3, 0, none⟩ = some (.int .i64 (xa : Int)) ∧ W.cell? ⟨B3, 1, none⟩ = some (.string xn) ∧ (Instr.lookup 83 (.map (some fb)) (.string xn) false).run Tryz.prog W = .ok (.agg #[.int .i64 (fa : Int), .int .i64 (fbb : Int)]) W) hmx (HS0.out) (fun hHeld => ?_)
      refine tkA 0 (.pointer (some ⟨wq, 0, none⟩)) ?_
      simp only [putX]
      refine tkA 1 (.pointer (some ⟨wq, 0, none⟩)) ?_
      simp only [putX]
      refine tkA 2 (.pointer (some ⟨wq, 3, none⟩)) ?_
      simp only [putX]
      refine tkA 3 (.map (some fb)) ?_
      simp only [putX]
      refine tkA 4 (.pointer (some ⟨B3, 1, none⟩)) ?_
      simp only [putX]
      refine tkA 5 (.string xn) ?_
      simp only [putX]
      refine tkA 6 (.agg #[.int .i64 (fa : Int), .int .i64 (fbb : Int)]) ?_
      simp only [putX]
      refine rdA 7 fun K' hK' => ?_
      go_simp
      refine hK'.out _ _ (by rw [← HW2.out]; exact HS2.out) (fun hHeld => ?_)
      clear hK' K'
      refine rdA 8 fun K' hK' => ?_
      go_simp
      refine hK'.out _ _ (by rw [← HW3.out]; exact HS3.out) (fun hHeld => ?_)
      clear hK' K'
      refine wpAnyH_done (by kernel_rfl) ?_ _
      have HC : Hid (Calls Tryz.prog 50 #[.pointer (some ⟨wq, 0, none⟩), .int .i64 (xa : Int), .int .i64 10, .int .i64 (fa : Int), .int .i64 (fbb : Int), .int .i64 0] W3 fun e w' => (∃ v, e = .returned v) ∧ FcI p N fd wq fb (some ⟨cb, 0, none⟩) F s w w' (flN p F s (i + 1))) := by
        obtain ⟨h1, h2⟩ := HLN.out i
        refine (fill_full p N fd wq fb xa 10 (fa : Int) (fbb : Int) 0 (flN p F s i) W3 HP.out.1 HP.out.2 HI3.out.lw (by rw [h1]; exact HS1.out.1) (by rw [h1]; exact HL.out) (i64_of (by have := HNN.out.1; omega)) (i64_of (by have := HNN.out.2; omega)) (i64_of (by omega))).mono ?_
        rintro e w4 ⟨hv, hl4, hk4, _, hko⟩
        refine ⟨hv, HI3.out.step (s' := flN p F s (i + 1)) ?_ hk4 hko⟩
        rw [flN, ← HFA.out.1, ← HFA.out.2.1, ← HFA.out.2.2]
        exact hl4
      go_wp2_with fail
      rw [← HW3.out]
      refine HC.out.mono ?_
      rintro e w4 ⟨⟨v, rfl⟩, hi4⟩
      have HI4 := hid hi4
      clear hi4
      go_wp2_with fail
      go_roundw
      case rel => exact ⟨i + 1, by omega, by go_num, HI4⟩
      case measure => simp [intOf]; omega
    · obtain rfl : i = m := by omega
      have hlt2 : ¬ (i : Int) < (i : Int) := by omega
      go_wp2_with fail
      go_end0
      exact ⟨⟨_, rfl⟩, HI.out.lw, HI.out.lk⟩

end Go.Proofs.YtmmgkdcojkmlcaaGreatDoor

namespace Go.Proofs.YtmmgkdcojkmlcaaGreatDoor
open Go.RowKit

/-- calls' places lie behind the first n, and their names aren't too long -/
def ClN (n : Nat) (s : LwS) : Prop := ∀ c, c ∈ s.cl → n ≤ c.1 ∧ c.1 < s.L.length ∧ c.2.length ≤ 4000
/-- the first n instructions are kept -/
def StK (n : Nat) (s s' : LwS) : Prop := n ≤ s.L.length → s.L.length ≤ s'.L.length ∧ s'.L.take n = s.L.take n ∧ (ClN n s → ClN n s')
theorem StK.refl (n : Nat) (s : LwS) : StK n s s := fun _ => ⟨Nat.le_refl _, rfl, id⟩
theorem StK.trans {n : Nat} {a b c : LwS} (h : StK n a b) (k : StK n b c) : StK n a c := fun hn => by
  obtain ⟨h1, h2, h3⟩ := h hn
  obtain ⟨k1, k2, k3⟩ := k (by omega)
  exact ⟨Nat.le_trans h1 k1, k2.trans h2, fun x => k3 (h3 x)⟩
theorem StK.lv (n : Nat) (s : LwS) : StK n s s.lv := fun hn => by
  refine ⟨by simp [LwS.lv], ?_, fun h c hc => ?_⟩
  · show (s.L ++ [zIns]).take n = _
    rw [List.take_append_of_le_length hn]
  · obtain ⟨h1, h2, h3⟩ := h c hc
    exact ⟨h1, by simp [LwS.lv]; omega, h3⟩
theorem StK.fl (n p k : Nat) (op a b c : Int) (s : LwS) (hk : n ≤ k) : StK n s (s.fl p k op a b c) := fun _ => by
  refine ⟨by simp [LwS.fl], ?_, fun h c hc => ?_⟩
  · show (s.L.set k _).take n = _
    rw [List.take_set_of_le hk]
  · obtain ⟨h1, h2, h3⟩ := h c hc
    exact ⟨h1, by simp [LwS.fl]; omega, h3⟩
theorem StK.of {n : Nat} {s s' : LwS} (h : n ≤ s.L.length → StK n s s') : StK n s s' := fun hn => h hn hn
theorem StK.wr (n p : Nat) (op a b c : Int) (s : LwS) : StK n s (s.wr p op a b c) := StK.of fun hn => (StK.lv n s).trans (StK.fl n p _ op a b c _ hn)
theorem StK.ca (n : Nat) (nm : List UInt8) (s : LwS) (hm : nm.length ≤ 4000) : StK n s (s.ca nm) := fun hn => by
  obtain ⟨h1, h2, h3⟩ := StK.lv n s hn
  refine ⟨h1, h2, fun h c hc => ?_⟩
  have hc2 : c ∈ s.cl ++ [(s.L.length, nm)] := hc
  rcases List.mem_append.1 hc2 with hc | hc
  · exact h3 h c hc
  · simp at hc
    subst hc
    exact ⟨hn, by simp [LwS.ca, LwS.lv], hm⟩
theorem StK.same {n : Nat} {s s' : LwS} (h1 : s'.L = s.L) (h2 : s'.cl = s.cl) : StK n s s' := fun _ => ⟨by rw [h1]; exact Nat.le_refl _, by rw [h1], fun h c hc => by rw [h2] at hc; rw [h1]; exact h c hc⟩
theorem StK.v {n : Nat} {q : KF} (h : ∀ to s, StK n s (q.f to s)) (s : LwS) : StK n s (q.v s).2 := by
  unfold KF.v
  split
  · exact StK.refl n s
  · exact (StK.same rfl rfl : StK n s s.cell).trans (h _ s.cell)
theorem StK.pss (n p : Nat) : ∀ (l : List Int) (i : Nat) (s : LwS), StK n s (pss p l i s)
  | [], _, s => StK.refl n s
  | x :: r, i, s => by
    rw [Proofs.YtmmgkdcojkmlcaaGreatDoor.pss]
    exact (StK.wr n p 13 x i 0 s).trans (StK.pss n p r (i + 1) _)
theorem TW.nm16 {k at' num : Nat} {nm : List UInt8} {kids : List Tr} (h : TW (.node k nm at' num kids)) : nm.length ≤ 4000 := by
  rcases h.1 with h | h | h | h | h | h | h
  · rw [h.2.1]; simp
  · have := h.2.1.2.1; omega
  · have := h.2.1.2.1; omega
  · rw [h.2.1]; simp
  · rw [h.2.2.1]; simp
  · have := h.2.1.2.1; omega
  · rw [h.2.2.1]; simp
mutual
theorem tlP_st (n p : Nat) (z : Int) : ∀ (t : Tr) (to : Int) (s : LwS), TW t → StK n s (tlP p z t to s)
  | .node k nm a m kids, to, s, hT => by
    have hm := hT.nm16
    have hkk := hT.2
    rw [tlP_node]
    unfold tlN
    split
    · exact StK.wr n p _ _ _ _ s
    · split
      · exact StK.wr n p _ _ _ _ s
      · split
        · exact (((kvs_st n p z kids s hkk).trans (StK.pss n p _ 0 _)).trans (StK.ca n nm _ hm)).trans (StK.wr n p _ _ _ _ _)
        · match kids, hkk with
          | [], _ => rw [kfP_nil]; exact StK.refl n s
          | [x], hkk =>
            rw [kfP_cons, kfP_nil]
            exact (StK.v (q := kfO p z x) (fun to s => tlP_st n p z x to s hkk.1) s).trans (StK.wr n p _ _ _ _ _)
          | [x, y], hkk =>
            rw [kfP_cons, kfP_cons, kfP_nil]
            have hx := StK.v (q := kfO p z x) (fun to s => tlP_st n p z x to s hkk.1) s
            simp only
            split
            · refine hx.trans ?_
              have h1 : StK n ((kfO p z x).v s).2 (((kfO p z x).v s).2.sM (updL ((kfO p z x).v s).2.M nm ((kfO p z x).v s).1)) := StK.same rfl rfl
              have h2 := tlP_st n p z y to (((kfO p z x).v s).2.sM (updL ((kfO p z x).v s).2.M nm ((kfO p z x).v s).1)) hkk.2.1
              exact (h1.trans h2).trans (StK.same rfl rfl)
            · exact (hx.trans (StK.v (q := kfO p z y) (fun to s => tlP_st n p z y to s hkk.2.1) _)).trans (StK.wr n p _ _ _ _ _)
          | [x, y, u], hkk =>
            rw [kfP_cons, kfP_cons, kfP_cons, kfP_nil]
            have hx := StK.v (q := kfO p z x) (fun to s => tlP_st n p z x to s hkk.1) s
            simp only
            split
            · exact ((hx.trans (StK.v (q := kfO p z y) (fun to s => tlP_st n p z y to s hkk.2.1) _)).trans (StK.wr n p _ _ _ _ _)).trans (tlP_st n p z u to _ hkk.2.2.1)
            · refine hx.trans ?_
              obtain ⟨s1, hs1⟩ : ∃ s1, s1 = ((kfO p z x).v s).2 := ⟨_, rfl⟩
              obtain ⟨q, hq⟩ : ∃ q, q = ((kfO p z x).v s).1 := ⟨_, rfl⟩
              rw [← hs1, ← hq]
              unfold ifL
              simp only [kfO]
              refine StK.of fun hn => ?_
              have h1 := (StK.lv n s1).trans (tlP_st n p z y to s1.lv hkk.2.1)
              obtain ⟨s3, hs3⟩ : ∃ s3, s3 = tlP p z y to s1.lv := ⟨_, rfl⟩
              rw [← hs3] at h1 ⊢
              have hn3 : n ≤ s3.L.length := Nat.le_trans hn (h1 hn).1
              have h2 := (h1.trans (StK.lv n s3)).trans (StK.fl n p s1.L.length 9 q s3.lv.L.length 0 s3.lv hn)
              obtain ⟨s5, hs5⟩ : ∃ s5, s5 = s3.lv.fl p s1.L.length 9 q s3.lv.L.length 0 := ⟨_, rfl⟩
              rw [← hs5] at h2 ⊢
              have h3 := (h2.trans (StK.same rfl rfl : StK n s5 (s5.sC s1.cells))).trans (tlP_st n p z u to (s5.sC s1.cells) hkk.2.2.1)
              obtain ⟨s7, hs7⟩ : ∃ s7, s7 = tlP p z u to (s5.sC s1.cells) := ⟨_, rfl⟩
              rw [← hs7] at h3 ⊢
              exact (h3.trans (StK.fl n p s3.L.length 8 s7.L.length 0 0 s7 hn3)).trans (StK.same rfl rfl)
          | x :: y :: u :: v :: r, _ => rw [kfP_cons, kfP_cons, kfP_cons, kfP_cons]; exact StK.refl n s
theorem kvs_st (n p : Nat) (z : Int) : ∀ (ts : List Tr) (s : LwS), TWs ts → StK n s (kvs (kfP p z ts) s).2
  | [], s, _ => by rw [kfP_nil]; exact StK.refl n s
  | t :: r, s, h => by
    rw [kfP_cons]
    exact (StK.v (q := kfO p z t) (fun to s => tlP_st n p z t to s h.1) s).trans (kvs_st n p z r _ h.2)
end

end Go.Proofs.YtmmgkdcojkmlcaaGreatDoor

namespace Go.Proofs.YtmmgkdcojkmlcaaGreatDoor

/-- the sign or word of a kind -/
def spll : Nat → List UInt8
  | 4 => [102, 110]
  | 5 => [108, 101, 116]
  | 6 => [110, 101, 101, 100]
  | 7 => [105, 102]
  | 8 => [116, 104, 101, 110]
  | 9 => [101, 108, 115, 101]
  | 10 => [40]
  | 11 => [41]
  | 12 => [44]
  | 13 => [59]
  | 14 => [61]
  | 15 => [61, 61]
  | 16 => [43]
  | 17 => [45]
  | 18 => [42]
  | 19 => [47]
  | _ => []
/-- a sign stands first that is none -/
def tkb (L : List UInt8) (a : Nat) : Bool := decide (blank (L.drop a) ≠ []) && decide ((blank (L.drop a)).takeWhile inWd = []) && decide ((sgn (blank (L.drop a))).1 = 0)
theorem tkb_kind {L : List UInt8} {a : Nat} (h : tkb L a = true) : (tok L a).kind = 0 := by
  unfold tkb at h
  simp at h
  obtain ⟨⟨h1, h2⟩, h3⟩ := h
  unfold tok tokR
  rw [if_neg h1, if_neg (by simpa using h2)]
  exact h3
theorem kwd_spl (t : List UInt8) (k : Nat) (h4 : 4 ≤ k) (h9 : k ≤ 9) : kwd t = k ↔ t = spll k := by
  have hk : k = 4 ∨ k = 5 ∨ k = 6 ∨ k = 7 ∨ k = 8 ∨ k = 9 := by omega
  unfold kwd
  constructor
  · intro h
    rcases hk with rfl | rfl | rfl | rfl | rfl | rfl <;> (repeat' split at h) <;> first | (simp at h; done) | assumption | omega
  · intro h
    subst h
    rcases hk with rfl | rfl | rfl | rfl | rfl | rfl <;> decide
theorem spl_first {k : Nat} (h4 : 4 ≤ k) (h9 : k ≤ 9) : ∃ c r, spll k = c :: r ∧ isLt c = true := by
  have hk : k = 4 ∨ k = 5 ∨ k = 6 ∨ k = 7 ∨ k = 8 ∨ k = 9 := by omega
  rcases hk with rfl | rfl | rfl | rfl | rfl | rfl <;> exact ⟨_, _, rfl, by decide⟩
theorem wkd_spl (t : List UInt8) (k : Nat) (h4 : 4 ≤ k) (h9 : k ≤ 9) : wkd t = k ↔ t = spll k := by
  obtain ⟨c, r, e, hc⟩ := spl_first h4 h9
  cases t with
  | nil =>
    rw [e]
    constructor
    · intro h
      have : wkd [] = 0 := rfl
      omega
    · intro h; cases h
  | cons x y =>
    rw [wkd]
    by_cases hx : isLt x = true
    · rw [if_pos hx]
      exact kwd_spl _ _ h4 h9
    · rw [if_neg hx]
      constructor
      · intro h
        repeat' split at h
        all_goals omega
      · intro h
        rw [e] at h
        injection h with h1 h2
        rw [h1] at hx
        exact absurd hc hx
theorem inWd_spl {k : Nat} (h4 : 10 ≤ k) (h9 : k ≤ 19) : ∃ c r, spll k = c :: r ∧ inWd c = false := by
  have hk : k = 10 ∨ k = 11 ∨ k = 12 ∨ k = 13 ∨ k = 14 ∨ k = 15 ∨ k = 16 ∨ k = 17 ∨ k = 18 ∨ k = 19 := by omega
  rcases hk with rfl | rfl | rfl | rfl | rfl | rfl | rfl | rfl | rfl | rfl <;> exact ⟨_, _, rfl, by decide⟩
def sg1 (c : UInt8) : Nat := if c = 40 then 10 else if c = 41 then 11 else if c = 44 then 12 else if c = 59 then 13 else if c = 43 then 16 else if c = 45 then 17 else if c = 42 then 18 else if c = 47 then 19 else 0
theorem sg1_to (c : UInt8) (k : Nat) (h : sg1 c = k) (h1 : 10 ≤ k) : [c] = spll k := by
  unfold sg1 at h
  repeat' split at h
  all_goals subst h
  all_goals first | (rename_i e; rw [e]; rfl) | omega
theorem sg1_of (c : UInt8) (k : Nat) (h : [c] = spll k) (h1 : 10 ≤ k) (h2 : k ≤ 19) (h61 : ¬ c = 61) : sg1 c = k := by
  have hk : k = 10 ∨ k = 11 ∨ k = 12 ∨ k = 13 ∨ k = 14 ∨ k = 15 ∨ k = 16 ∨ k = 17 ∨ k = 18 ∨ k = 19 := by omega
  rcases hk with rfl | rfl | rfl | rfl | rfl | rfl | rfl | rfl | rfl | rfl <;> (injection h with h h'; first | (cases h'; done) | (subst h; rfl) | exact absurd h h61)
theorem sgn_one {c : UInt8} (r : List UInt8) (h : ¬ c = 61) : sgn (c :: r) = (sg1 c, 1) := by
  unfold sgn sg1
  simp only [if_neg h]
theorem sgn_eq (r : List UInt8) : sgn (61 :: r) = (15, 2) ∧ (∃ r', r = 61 :: r') ∨ sgn (61 :: r) = (14, 1) := by
  unfold sgn
  simp only [if_true]
  split
  · exact Or.inl ⟨rfl, _, rfl⟩
  · exact Or.inr rfl
theorem spl_ne14 {k : Nat} (h1 : 10 ≤ k) (h2 : k ≤ 19) (h : spll k = [61]) : k = 14 := by
  have hk : k = 10 ∨ k = 11 ∨ k = 12 ∨ k = 13 ∨ k = 14 ∨ k = 15 ∨ k = 16 ∨ k = 17 ∨ k = 18 ∨ k = 19 := by omega
  rcases hk with rfl | rfl | rfl | rfl | rfl | rfl | rfl | rfl | rfl | rfl <;> first | rfl | (exact absurd h (by decide))
theorem spl_ne15 {k : Nat} (h1 : 10 ≤ k) (h2 : k ≤ 19) (h : spll k = [61, 61]) : k = 15 := by
  have hk : k = 10 ∨ k = 11 ∨ k = 12 ∨ k = 13 ∨ k = 14 ∨ k = 15 ∨ k = 16 ∨ k = 17 ∨ k = 18 ∨ k = 19 := by omega
  rcases hk with rfl | rfl | rfl | rfl | rfl | rfl | rfl | rfl | rfl | rfl <;> first | rfl | (exact absurd h (by decide))
theorem sgn_spl (r : List UInt8) (hr : r ≠ []) (k : Nat) (h1 : 10 ≤ k) (h2 : k ≤ 19) : (sgn r).1 = k ↔ r.take (sgn r).2 = spll k := by
  cases r with
  | nil => exact absurd rfl hr
  | cons c r =>
    by_cases e : c = 61
    · subst e
      rcases sgn_eq r with ⟨e1, r', rfl⟩ | e1
      · rw [e1]
        show 15 = k ↔ [61, 61] = spll k
        exact ⟨fun h => by subst h; rfl, fun h => (spl_ne15 h1 h2 h.symm).symm⟩
      · rw [e1]
        show 14 = k ↔ [61] = spll k
        exact ⟨fun h => by subst h; rfl, fun h => (spl_ne14 h1 h2 h.symm).symm⟩
    · rw [sgn_one r e]
      exact ⟨fun h => sg1_to c k h h1, fun h => sg1_of c k h h1 h2 e⟩
/-- what a token is, is how it is spelled -/
theorem tok_spl (L : List UInt8) (a k : Nat) (h4 : 4 ≤ k) (h19 : k ≤ 19) : (tok L a).kind = k ↔ (tok L a).text = spll k := by
  unfold tok
  generalize blank (L.drop a) = r
  unfold tokR
  by_cases hr : r = []
  · rw [if_pos hr]
    constructor
    · intro h
      have h : (1 : Nat) = k := h
      omega
    · intro h
      have h : [] = spll k := h
      rcases Nat.lt_or_ge k 10 with h9 | h9
      · obtain ⟨c, r, e, _⟩ := spl_first h4 (by omega)
        rw [e] at h; cases h
      · obtain ⟨c, r, e, _⟩ := inWd_spl h9 h19
        rw [e] at h; cases h
  · rw [if_neg hr]
    by_cases hw : r.takeWhile inWd ≠ []
    · rw [if_pos hw]
      show wkd (r.takeWhile inWd) = k ↔ r.takeWhile inWd = spll k
      rcases Nat.lt_or_ge k 10 with h9 | h9
      · exact wkd_spl _ k h4 (by omega)
      · constructor
        · intro h
          have := (wkd_ne (r.takeWhile inWd)).2
          omega
        · intro h
          obtain ⟨c, r', e, hc⟩ := inWd_spl h9 h19
          rw [e] at h
          have h2 : c ∈ r.takeWhile inWd := by rw [h]; exact List.mem_cons_self
          have h3 := List.all_eq_true.1 (List.all_takeWhile (l := r) (p := inWd)) c h2
          rw [hc] at h3; cases h3
    · rw [if_neg hw]
      show (sgn r).1 = k ↔ r.take (sgn r).2 = spll k
      rcases Nat.lt_or_ge k 10 with h9 | h9
      · constructor
        · intro h
          have := (sgn_two r).1.2.1
          omega
        · intro h
          have hw' : r.takeWhile inWd = [] := by simpa using hw
          obtain ⟨c, r', e, hc⟩ := spl_first h4 (by omega)
          have hcw : inWd c = true := by unfold inWd; rw [hc]; simp
          cases r with
          | nil => exact absurd rfl hr
          | cons x y =>
            have h1 := (sgn_two (x :: y)).2.1
            obtain ⟨m, hm⟩ : ∃ m, (sgn (x :: y)).2 = m + 1 := ⟨(sgn (x :: y)).2 - 1, by omega⟩
            rw [hm, List.take_succ_cons, e] at h
            injection h with h _
            rw [h, List.takeWhile_cons, hcw] at hw'
            cases hw'
      · exact sgn_spl r hr k h9 h19
theorem tok_end (L : List UInt8) (a : Nat) (h : a ≤ L.length) : (tok L a).kind = 1 ↔ (tok L a).text = [] := by
  have h1 := tok_at L a h
  constructor
  · intro h2; exact (h1.2.2.2.2 h2).1
  · intro h2
    apply Classical.byContradiction
    intro h3
    have := h1.2.2.2.1 h3
    unfold Tok.nx at this
    rw [h2] at this
    simp at this
theorem tok_word (L : List UInt8) (a : Nat) : (tok L a).kind = 2 ∨ (tok L a).kind = 3 → wkd (tok L a).text = (tok L a).kind := by
  intro h
  unfold tok at h ⊢
  generalize blank (L.drop a) = r at h ⊢
  unfold tokR at h ⊢
  by_cases hr : r = []
  · rw [if_pos hr] at h
    have h : (1 : Nat) = 2 ∨ (1 : Nat) = 3 := h
    omega
  · rw [if_neg hr] at h ⊢
    by_cases hw : r.takeWhile inWd ≠ []
    · rw [if_pos hw] at h ⊢
    · rw [if_neg hw] at h
      have h : (sgn r).1 = 2 ∨ (sgn r).1 = 3 := h
      have := (sgn_two r).1.2.1
      omega
/-- a token that is no word but stands: its kind is not that of one -/
theorem tok_not (L : List UInt8) (a : Nat) (hb : tkb L a = false) : ((tok L a).kind = wkd (tok L a).text ∧ (tok L a).text.all inWd = true ∧ (tok L a).text ≠ []) ∨ ((tok L a).kind = 1 ∧ (tok L a).text = []) ∨ (10 ≤ (tok L a).kind ∧ ∃ c r, (tok L a).text = c :: r ∧ inWd c = false) := by
  unfold tkb at hb
  unfold tok
  generalize blank (L.drop a) = r at hb ⊢
  unfold tokR
  by_cases hr : r = []
  · rw [if_pos hr]; exact Or.inr (Or.inl ⟨rfl, rfl⟩)
  · rw [if_neg hr]
    by_cases hw : r.takeWhile inWd ≠ []
    · rw [if_pos hw]; exact Or.inl ⟨rfl, List.all_takeWhile, hw⟩
    · rw [if_neg hw]
      have hw' : r.takeWhile inWd = [] := by simpa using hw
      have h0 : ¬ (sgn r).1 = 0 := by intro h; simp [hr, hw', h] at hb
      have h1 := (sgn_two r).1.2.1
      refine Or.inr (Or.inr ⟨by show 10 ≤ (sgn r).1; omega, ?_⟩)
      cases r with
      | nil => exact absurd rfl hr
      | cons x y =>
        have h2 := (sgn_two (x :: y)).2.1
        obtain ⟨m, hm⟩ : ∃ m, (sgn (x :: y)).2 = m + 1 := ⟨(sgn (x :: y)).2 - 1, by omega⟩
        refine ⟨x, y.take m, by show (x :: y).take (sgn (x :: y)).2 = _; rw [hm, List.take_succ_cons], ?_⟩
        cases hx : inWd x with
        | false => rfl
        | true => rw [List.takeWhile_cons, hx] at hw'; cases hw'

end Go.Proofs.YtmmgkdcojkmlcaaGreatDoor

namespace Go.Proofs.YtmmgkdcojkmlcaaGreatDoor
open Go.RowKit

theorem rdig_any (c : UInt8) (w : World) : Calls Tryz.prog 61 #[.int .u8 (c.toNat : Int)] w fun e w' => e = .returned (.bool (isDg c)) ∧ w' = w := by
  have e : isDg c = (decide (48 ≤ (c.toNat : Int)) && decide ((c.toNat : Int) ≤ 57)) := by
    unfold isDg
    rw [Bool.eq_iff_iff]
    simp [UInt8.le_iff_toNat_le]
    omega
  rw [e]
  generalize (c.toNat : Int) = m
  by_cases h1 : 48 ≤ m
  · by_cases h2 : m ≤ 57
    all_goals
      go_enter Tryz.func61, Tryz.ntmps61
      go_wp2_with fail
      go_ret
      simp
      try omega
  · go_enter Tryz.func61, Tryz.ntmps61
    go_wp2_with fail
    go_ret
    simp
    omega
set_option maxHeartbeats 400000 in
theorem rlet_any (c : UInt8) (w : World) : Calls Tryz.prog 62 #[.int .u8 (c.toNat : Int)] w fun e w' => e = .returned (.bool (isLt c)) ∧ w' = w := by
  have e : isLt c = ((decide (65 ≤ (c.toNat : Int)) && decide ((c.toNat : Int) ≤ 90)) || (decide (97 ≤ (c.toNat : Int)) && decide ((c.toNat : Int) ≤ 122))) := by
    unfold isLt
    rw [Bool.eq_iff_iff]
    simp [UInt8.le_iff_toNat_le]
    omega
  rw [e]
  generalize (c.toNat : Int) = m
  by_cases h1 : 65 ≤ m
  · by_cases h2 : m ≤ 90
    · go_enter Tryz.func62, Tryz.ntmps62
      go_wp2_with fail
      go_ret
      simp
      try omega
    · by_cases h3 : 97 ≤ m
      · by_cases h4 : m ≤ 122
        all_goals
          go_enter Tryz.func62, Tryz.ntmps62
          go_wp2_with fail
          go_ret
          simp
          try omega
      · go_enter Tryz.func62, Tryz.ntmps62
        go_wp2_with fail
        go_ret
        simp
        try omega
  · have h3 : ¬ 97 ≤ m := by omega
    go_enter Tryz.func62, Tryz.ntmps62
    go_wp2_with fail
    go_ret
    simp
    try omega
set_option maxHeartbeats 400000 in
theorem rinw_any (c : UInt8) (w : World) : Calls Tryz.prog 36 #[.int .u8 (c.toNat : Int)] w fun e w' => e = .returned (.bool (inWd c)) ∧ w' = w := by
  have HD := hid (rdig_any c w)
  have HL := hid (rlet_any c w)
  have q0 : ((c.toNat : Int) == 95) = decide (c = 95) := u8_eq c 95
  have q : ((c.toNat : Int) == 95) = (c == 95) := by rw [q0, Bool.eq_iff_iff]; simp
  clear q0
  unfold inWd
  generalize isDg c = d at *
  generalize isLt c = l at *
  generalize (c == 95) = u at *
  generalize (c.toNat : Int) = m at *
  go_enter Tryz.func36, Tryz.ntmps36
  go_wp2_with fail
  refine HD.out.mono ?_
  rintro e w1 ⟨rfl, rfl⟩
  go_wp2_with fail
  refine HL.out.mono ?_
  rintro e w2 ⟨rfl, rfl⟩
  cases d with
  | true =>
    go_wp2_with fail
    go_ret
    exact ⟨rfl, rfl⟩
  | false =>
    cases l with
    | true =>
      go_wp2_with fail
      go_ret
      exact ⟨rfl, rfl⟩
    | false =>
      cases u with
      | true =>
        go_wp2_with fail
        go_ret
        exact ⟨rfl, rfl⟩
      | false =>
        go_wp2_with fail
        go_ret
        exact ⟨rfl, rfl⟩

/-- a reader of the reference in memory -/
def RgR (w : World) (R : Nat) (T : ByteArray) (at' : Int) (tk : ByteArray) (dp e bd : Int) : Prop := w.heap[R]? = some (.cells #[.string T, .int .i64 at', .string tk, .int .i64 dp, .int .i64 e, .int .i64 bd] 77 (0, 0))
section
variable {w : World} {R : Nat} {T tk : ByteArray} {at' dp e bd : Int}
theorem RgR.lt (h : RgR w R T at' tk dp e bd) : R < w.heap.size := (Array.getElem?_eq_some_iff.1 h).1
theorem RgR.c0 (h : RgR w R T at' tk dp e bd) : w.cell? ⟨R, 0, none⟩ = some (.string T) := by simp [World.cell?, show w.heap[R]? = _ from h]
theorem RgR.c1 (h : RgR w R T at' tk dp e bd) : w.cell? ⟨R, 1, none⟩ = some (.int .i64 at') := by simp [World.cell?, show w.heap[R]? = _ from h]
theorem RgR.c2 (h : RgR w R T at' tk dp e bd) : w.cell? ⟨R, 2, none⟩ = some (.string tk) := by simp [World.cell?, show w.heap[R]? = _ from h]
theorem RgR.c3 (h : RgR w R T at' tk dp e bd) : w.cell? ⟨R, 3, none⟩ = some (.int .i64 dp) := by simp [World.cell?, show w.heap[R]? = _ from h]
theorem RgR.c4 (h : RgR w R T at' tk dp e bd) : w.cell? ⟨R, 4, none⟩ = some (.int .i64 e) := by simp [World.cell?, show w.heap[R]? = _ from h]
theorem RgR.c5 (h : RgR w R T at' tk dp e bd) : w.cell? ⟨R, 5, none⟩ = some (.int .i64 bd) := by simp [World.cell?, show w.heap[R]? = _ from h]
theorem RgR.fz (h : RgR w R T at' tk dp e bd) (i : Nat) : w.frozen? ⟨R, i, none⟩ = false := frozen_of_row w R i _ _ h
theorem RgR.s1 (h : RgR w R T at' tk dp e bd) (z : Int) : RgR (w.setCell ⟨R, 1, none⟩ (.int .i64 z)) R T z tk dp e bd := heap_setCell_same _ R 1 _ _ _ h
theorem RgR.s2 (h : RgR w R T at' tk dp e bd) (z : ByteArray) : RgR (w.setCell ⟨R, 2, none⟩ (.string z)) R T at' z dp e bd := heap_setCell_same _ R 2 _ _ _ h
theorem RgR.s3 (h : RgR w R T at' tk dp e bd) (z : Int) : RgR (w.setCell ⟨R, 3, none⟩ (.int .i64 z)) R T at' tk z e bd := heap_setCell_same _ R 3 _ _ _ h
theorem RgR.s4 (h : RgR w R T at' tk dp e bd) (z : Int) : RgR (w.setCell ⟨R, 4, none⟩ (.int .i64 z)) R T at' tk dp z bd := heap_setCell_same _ R 4 _ _ _ h
theorem RgR.s5 (h : RgR w R T at' tk dp e bd) (z : Int) : RgR (w.setCell ⟨R, 5, none⟩ (.int .i64 z)) R T at' tk dp e z := heap_setCell_same _ R 5 _ _ _ h
end

set_option maxRecDepth 100000 in
theorem rfail_any (R : Nat) (T tk : ByteArray) (at' dp e bd e2 b2 : Int) (w : World) (h : RgR w R T at' tk dp e bd) : Calls Tryz.prog 37 #[.pointer (some ⟨R, 0, none⟩), .int .i64 e2, .int .i64 b2] w fun en w' => en = .returned (.tuple #[]) ∧ Fr R w w' ∧ RgR w' R T at' tk dp (if e = 0 then e2 else e) (if e = 0 then b2 else bd) := by
  have c4 := h.c4
  have c5 := h.c5
  have f4 := h.fz 4
  have f5 := h.fz 5
  have H := hid h
  clear h
  by_cases he : e = 0
  · rw [if_pos he, if_pos he]
    have q : (e == 0) = true := by simpa using he
    clear he
    go_enter Tryz.func37, Tryz.ntmps37
    go_wp2_with fail
    go_end0
    exact ⟨rfl, ((Fr.refl R w).set 4 _).set 5 _, (H.out.s4 _).s5 _⟩
  · rw [if_neg he, if_neg he]
    have q : (e == 0) = false := by simpa using he
    clear he
    go_enter Tryz.func37, Tryz.ntmps37
    go_wp2_with fail
    go_end0
    exact ⟨rfl, Fr.refl R w, H.out⟩

end Go.Proofs.YtmmgkdcojkmlcaaGreatDoor

namespace Go.Proofs.YtmmgkdcojkmlcaaGreatDoor
open Go.RowKit

theorem blank_dw (L : List UInt8) (k : Nat) (h : k < L.length) (hc : ¬ L.getD k 0 = 10) : (L.drop k).dropWhile (· != 10) = (L.drop (k + 1)).dropWhile (· != 10) := by
  rw [drop_cons L k h, List.dropWhile_cons, if_pos (by simpa using hc)]
theorem tw_at (r : List UInt8) (p : UInt8 → Bool) (m : Nat) (hm : m < r.length) (h : ∀ j, j < m → p (r.getD j 0) = true) (hn : p (r.getD m 0) = false) : (r.takeWhile p).length = m := by
  induction r generalizing m with
  | nil => simp at hm
  | cons x y ih =>
    cases m with
    | zero =>
      have : p x = false := hn
      simp [this]
    | succ m =>
      have h0 : p x = true := h 0 (by omega)
      rw [List.takeWhile_cons, h0]
      simp
      exact ih m (by simpa using hm) (fun j hj => h (j + 1) (by omega)) hn
theorem tw_to (r : List UInt8) (p : UInt8 → Bool) (h : ∀ j, j < r.length → p (r.getD j 0) = true) : r.takeWhile p = r := by
  induction r with
  | nil => rfl
  | cons x y ih =>
    have h0 : p x = true := h 0 (by simp)
    rw [List.takeWhile_cons, h0]
    simp
    exact ih fun j hj => h (j + 1) (by simpa using hj)
theorem getD_drop (L : List UInt8) (k j : Nat) : (L.drop k).getD j 0 = L.getD (k + j) 0 := by
  rw [List.getD_eq_getElem?_getD, List.getElem?_drop, List.getD_eq_getElem?_getD]
/-- what a token is, by what stands first -/
theorem tok_pst (L : List UInt8) (a : Nat) : (tok L a).at' = pst L a := by
  unfold tok pst
  generalize blank (L.drop a) = r
  unfold tokR
  by_cases hr : r = []
  · rw [if_pos hr, hr]; simp
  · rw [if_neg hr]
    split <;> rfl
/-- what Next leaves -/
def NxR (R : Nat) (T : ByteArray) (i : Nat) (dp : Int) (w : World) (en : Ending) (w' : World) : Prop := en = .returned (.tuple #[]) ∧ Fr R w w' ∧ RgR w' R T ((tok (by' T) i).at' : Nat) (if tkb (by' T) i = true then bs [] else bs (tok (by' T) i).text) dp (if tkb (by' T) i = true then 5 else 0) (if tkb (by' T) i = true then ((tok (by' T) i).at' : Nat) else 0)
theorem sg1_cases (c : UInt8) (h : ¬ sg1 c = 0) : c = 40 ∨ c = 41 ∨ c = 44 ∨ c = 59 ∨ c = 43 ∨ c = 45 ∨ c = 42 ∨ c = 47 := by
  unfold sg1 at h
  repeat' split at h
  all_goals first | (exact absurd rfl h) | simp_all
theorem sg1_none (c : UInt8) (h : sg1 c = 0) : ¬ c = 40 ∧ ¬ c = 41 ∧ ¬ c = 44 ∧ ¬ c = 59 ∧ ¬ c = 43 ∧ ¬ c = 45 ∧ ¬ c = 42 ∧ ¬ c = 47 := by
  unfold sg1 at h
  repeat' split at h
  all_goals first | (cases h; done) | simp_all

set_option maxRecDepth 100000 in
set_option maxHeartbeats 2000000 in
theorem rnext_any (R i : Nat) (T tk0 : ByteArray) (at0 dp : Int) (w : World) (h : RgR w R T at0 tk0 dp 0 0) (hi : i ≤ T.size) (hT : T.size ≤ 4000) :
    Calls Tryz.prog 21 #[.pointer (some ⟨R, 0, none⟩), .int .i64 (i : Int)] w (NxR R T i dp w) := by
  have hnot : ∀ (x : Bool) (w : World), (Op.unary .not (.bool x)).run Tryz.prog w = .ok (.bool (!x)) w := fun _ _ => rfl
  have HIW := hid rinw_any
  obtain ⟨L, hL⟩ : ∃ L, by' T = L := ⟨_, rfl⟩
  have hl := by_len T
  rw [hL] at hl
  have HL := hid hL
  have HLN := hid hl
  obtain ⟨V, hV⟩ : ∃ V, V = w.setCell ⟨R, 2, none⟩ (.string ⟨#[]⟩) := ⟨_, rfl⟩
  have HV : Hid (RgR V R T at0 ⟨#[]⟩ dp 0 0) := by unfold Hid; rw [hV]; exact h.s2 _
  have HF : Hid (Fr R w V) := by unfold Hid; rw [hV]; exact (Fr.refl R w).set 2 _
  have c2 := h.c2
  have f2 := h.fz 2
  have v0 := HV.out.c0
  have v1 := HV.out.c1
  have v4 := HV.out.c4
  have g1 := HV.out.fz 1
  have HFL := hid rfail_any
  have HWD : Hid (∀ en w', NxR R T i dp w en w' → NxR R T i dp w en w') := fun _ _ h => h
  clear hL hl h
  go_enter Tryz.func21, Tryz.ntmps21
  go_wp2_with fail
  rw [← hV]
  clear hV c2 f2
  go_loop [1] (fun v => ∃ k : Nat, k ≤ T.size ∧ v = .int .i64 k ∧ Hid (blank (L.drop k) = blank (L.drop i))) (fun v => T.size - (intOf v).toNat)
  case atStart => exact ⟨i, hi, rfl, rfl⟩
  case round =>
    obtain ⟨k, hk, rfl, HA⟩ := hrel
    by_cases hlt : k < T.size
    · have hlt2 : (k : Int) < (T.size : Int) := by omega
      have hwr : IntKind.i64.wrap ((k : Int) + 1) = (k : Int) + 1 := by rw [IntKind.wrap_i64]; omega
      have hne : ((k : Int) == (T.size : Int)) = false := by simp; omega
      obtain ⟨c, hc⟩ : ∃ c, T[k] = c := ⟨_, rfl⟩
      have HG : Hid (L.drop k = c :: L.drop (k + 1)) := by
        unfold Hid
        rw [drop_cons L k (by rw [HLN.out]; exact hlt), ← HL.out, by_getD T k hlt, hc]
      have q1 : ((c.toNat : Int) == 32) = decide (c = 32) := u8_eq c 32
      have q2 : ((c.toNat : Int) == 9) = decide (c = 9) := u8_eq c 9
      have q3 : ((c.toNat : Int) == 10) = decide (c = 10) := u8_eq c 10
      have q4 : ((c.toNat : Int) == 35) = decide (c = 35) := u8_eq c 35
      by_cases h4 : c = 35
      · rw [decide_eq_true h4] at q4
        have HA2 : Hid (blank ((L.drop k).dropWhile (· != 10)) = blank (L.drop i)) := by
          unfold Hid
          rw [← HA.out, blank_dw L k (by rw [HLN.out]; exact hlt) (by rw [← HL.out, by_getD T k hlt, hc, h4]; decide), HG.out, h4, blank_rem]
        have HK : Hid (k < T.size ∧ ¬ L.getD k 0 = 10) := ⟨hlt, by rw [← HL.out, by_getD T k hlt, hc, h4]; decide⟩
        clear h4 q1 q2 q3 HG HA
        go_wp2_with fail
        clear hc q4 hlt2 hwr hne
        go_loop [1] (fun v => ∃ m : Nat, m ≤ T.size ∧ v = .int .i64 m ∧ Hid (blank ((L.drop m).dropWhile (· != 10)) = blank (L.drop i)) ∧ Hid (k < m ∨ (m = k ∧ k < T.size ∧ ¬ L.getD k 0 = 10))) (fun v => T.size - (intOf v).toNat)
        case atStart => exact ⟨k, hk, rfl, HA2, Or.inr ⟨rfl, HK.out⟩⟩
        case round =>
          obtain ⟨m, hm, rfl, HB, HKM⟩ := hrel
          by_cases hlm : m < T.size
          · have hlm2 : (m : Int) < (T.size : Int) := by omega
            have hwm : IntKind.i64.wrap ((m : Int) + 1) = (m : Int) + 1 := by rw [IntKind.wrap_i64]; omega
            obtain ⟨d, hd⟩ : ∃ d, T[m] = d := ⟨_, rfl⟩
            have HD : Hid (L.getD m 0 = d) := by unfold Hid; rw [← HL.out, by_getD T m hlm, hd]
            have q5 : ((d.toNat : Int) != 10) = !decide (d = 10) := congrArg not (u8_eq d 10)
            by_cases hd10 : d = 10
            · rw [decide_eq_true hd10] at q5
              have HKM2 : Hid (k < m) := by
                rcases HKM.out with h | ⟨h1, _, h2⟩
                · exact h
                · rw [← h1, HD.out] at h2; exact absurd hd10 h2
              have HN : Hid (blank (L.drop m) = blank (L.drop i)) := by
                unfold Hid
                have := HB.out
                rw [drop_cons L m (by rw [HLN.out]; exact hlm), HD.out, hd10, List.dropWhile_cons, if_neg (by decide)] at this
                rw [drop_cons L m (by rw [HLN.out]; exact hlm), HD.out, hd10]
                exact this
              have hkm : k < m := HKM2.out
              clear hd10 HB
              go_wp2_with fail
              go_round
              case rel => exact ⟨m, by omega, by go_num, HN⟩
              case measure => simp [intOf]; omega
            · rw [decide_eq_false hd10] at q5
              have HB2 : Hid (blank ((L.drop (m + 1)).dropWhile (· != 10)) = blank (L.drop i)) := by
                unfold Hid
                rw [← blank_dw L m (by rw [HLN.out]; exact hlm) (by rw [HD.out]; exact hd10)]
                exact HB.out
              have HKM2 : Hid (k < m + 1) := by
                unfold Hid
                rcases HKM.out with h | ⟨h1, _, h2⟩ <;> omega
              clear hd10 HB
              go_wp2_with fail
              go_round
              case rel => exact ⟨m + 1, by omega, by go_num, HB2, Or.inl HKM2.out⟩
              case measure => simp [intOf]; omega
          · obtain rfl : m = T.size := by omega
            have hlm2 : ¬ (T.size : Int) < (T.size : Int) := by omega
            have HN : Hid (blank (L.drop T.size) = blank (L.drop i)) := by
              unfold Hid
              have := HB.out
              rw [List.drop_of_length_le (by rw [HLN.out]; exact Nat.le_refl _)] at this ⊢
              exact this
            have hkm : k < T.size := hlt
            clear HB
            go_wp2_with fail
            go_round
            case rel => exact ⟨T.size, by omega, by go_num, HN⟩
            case measure => simp [intOf]; omega
      · rw [decide_eq_false h4] at q4
        by_cases hb : c = 32 ∨ c = 9 ∨ c = 10
        · have HN : Hid (blank (L.drop (k + 1)) = blank (L.drop i)) := by
            unfold Hid
            rw [← HA.out, HG.out, blank_sp _ hb]
          by_cases h1 : c = 32
          · rw [decide_eq_true h1] at q1
            clear hb h1 q2 q3 h4 HA HG
            go_wp2_with fail
            go_round
            case rel => exact ⟨k + 1, by omega, by go_num, HN⟩
            case measure => simp [intOf]; omega
          · by_cases h2 : c = 9
            · rw [decide_eq_false h1] at q1
              rw [decide_eq_true h2] at q2
              clear hb h1 h2 q3 h4 HA HG
              go_wp2_with fail
              go_round
              case rel => exact ⟨k + 1, by omega, by go_num, HN⟩
              case measure => simp [intOf]; omega
            · have h3 : c = 10 := by rcases hb with h | h | h; exact absurd h h1; exact absurd h h2; exact h
              rw [decide_eq_false h1] at q1
              rw [decide_eq_false h2] at q2
              rw [decide_eq_true h3] at q3
              clear hb h1 h2 h3 h4 HA HG
              go_wp2_with fail
              go_round
              case rel => exact ⟨k + 1, by omega, by go_num, HN⟩
              case measure => simp [intOf]; omega
        · have h1 : ¬ c = 32 := fun e => hb (.inl e)
          have h2 : ¬ c = 9 := fun e => hb (.inr (.inl e))
          have h3 : ¬ c = 10 := fun e => hb (.inr (.inr e))
          have HBL : Hid (blank (L.drop i) = L.drop k) := by
            unfold Hid
            rw [← HA.out, HG.out, blank_no _ h1 h2 h3 h4]
          have HPS : Hid (pst L i = k) := by
            unfold Hid pst
            rw [HBL.out, List.length_drop, HLN.out]
            omega
          rw [decide_eq_false h1] at q1
          rw [decide_eq_false h2] at q2
          rw [decide_eq_false h3] at q3
          clear hb h1 h2 h3 h4 HA
          obtain ⟨U, hU⟩ : ∃ U, U = V.setCell ⟨R, 1, none⟩ (.int .i64 (k : Int)) := ⟨_, rfl⟩
          have HU : Hid (RgR U R T (k : Int) ⟨#[]⟩ dp 0 0) := by unfold Hid; rw [hU]; exact HV.out.s1 _
          have HFU : Hid (Fr R w U) := by unfold Hid; rw [hU]; exact HF.out.set 1 _
          have u0 := HU.out.c0
          have u2 := HU.out.c2
          have u4 := HU.out.c4
          have x2 := HU.out.fz 2
          replace hU := hU.symm
          go_wp2_with fail
          clear hU v0 v1 v4 g1 q1 q2 q3 q4 hwr
          go_loop [5] (fun v => ∃ m : Nat, k ≤ m ∧ m ≤ T.size ∧ v = .int .i64 m ∧ Hid (∀ j, j < m - k → inWd ((L.drop k).getD j 0) = true)) (fun v => T.size - (intOf v).toNat)
          case atStart => exact ⟨k, Nat.le_refl _, hk, rfl, fun j hj => by omega⟩
          case round =>
            obtain ⟨m, hkm, hm, rfl, HB⟩ := hrel
            by_cases hlm : m < T.size
            · have hlm2 : (m : Int) < (T.size : Int) := by omega
              have hwm : IntKind.i64.wrap ((m : Int) + 1) = (m : Int) + 1 := by rw [IntKind.wrap_i64]; omega
              obtain ⟨d, hd⟩ : ∃ d, T[m] = d := ⟨_, rfl⟩
              have HD : Hid ((L.drop k).getD (m - k) 0 = d) := by unfold Hid; rw [getD_drop, show k + (m - k) = m by omega, ← HL.out, by_getD T m hlm, hd]
              cases hw : inWd d with
              | true =>
                have HB2 : Hid (∀ j, j < m + 1 - k → inWd ((L.drop k).getD j 0) = true) := fun j hj => by
                  rcases Nat.lt_or_ge j (m - k) with g | g
                  · exact HB.out j g
                  · obtain rfl : j = m - k := by omega
                    rw [HD.out]; exact hw
                go_wp2_with fail
                refine (HIW.out d _).mono ?_
                rintro e w1 ⟨rfl, rfl⟩
                rw [hw]
                clear hw HB HD
                go_wp2_with fail
                go_round
                case rel => exact ⟨m + 1, by omega, by omega, by go_num, HB2⟩
                case measure => simp [intOf]; omega
              | false =>
                have HTW : Hid (((L.drop k).takeWhile inWd).length = m - k) := tw_at _ _ _ (by rw [List.length_drop, HLN.out]; omega) HB.out (by rw [HD.out]; exact hw)
                go_wp2_with fail
                refine (HIW.out d _).mono ?_
                rintro e w1 ⟨rfl, rfl⟩
                rw [hw]
                clear hw
                by_cases hkk : k < m
                · have q5 : ((m : Int) == (k : Int)) = false := by simp; omega
                  have q6 : (k : Int) ≤ (m : Int) := by omega
                  have q7 : (m : Int) ≤ (T.size : Int) := by omega
                  have HTK : Hid (tkb L i = false ∧ (tok L i).text = (L.drop k).takeWhile inWd) := by
                    have hne2 : (L.drop k).takeWhile inWd ≠ [] := fun e => by have := HTW.out; rw [e] at this; simp at this; omega
                    refine ⟨?_, ?_⟩
                    · unfold tkb; rw [HBL.out]; simp [hne2]
                    · unfold tok tokR; rw [HBL.out, if_neg (by rw [HG.out]; simp), if_pos hne2]
                  have HX : Hid (T.extract k m = bs ((L.drop k).takeWhile inWd)) := by
                    unfold Hid
                    apply by_inj
                    rw [by_ext, by_bs, HL.out, ← HTW.out]
                    exact (List.prefix_iff_eq_take.1 (List.takeWhile_prefix inWd)).symm
                  clear hkk hd hlm2 hwm HB HD
                  go_wp2_with fail
                  go_end0
                  refine HWD.out _ _ ⟨rfl, HFU.out.set 2 _, ?_⟩
                  rw [HL.out, tok_pst, HPS.out, HTK.out.1, if_neg (by decide), if_neg (by decide), if_neg (by decide), HTK.out.2, ← HX.out]
                  exact HU.out.s2 _
                · obtain rfl : m = k := by omega
                  have hdc : d = c := by rw [← hd, hc]
                  subst hdc
                  have q5 : ((m : Int) == (m : Int)) = true := by simp
                  have HTW0 : Hid ((L.drop m).takeWhile inWd = []) := by
                    have := HTW.out
                    rw [Nat.sub_self] at this
                    exact List.length_eq_zero_iff.1 this
                  have HTT : Hid ((tok L i).text = (L.drop m).take (sgn (L.drop m)).2) := by
                    unfold Hid tok tokR; rw [HBL.out, if_neg (by rw [HG.out]; simp), if_neg (by rw [HTW0.out]; simp)]
                  have HTB : Hid (tkb L i = decide ((sgn (L.drop m)).1 = 0)) := by
                    unfold Hid tkb
                    rw [HBL.out, HTW0.out, HG.out]
                    simp
                  have q6 : (m : Int) ≤ (T.size : Int) := by omega
                  have w1' : IntKind.i64.wrap ((m : Int) + 1) = (m : Int) + 1 := hwm
                  have q8 : (m : Int) ≤ (m : Int) + 1 := by omega
                  clear hkk HB HD HTW hkm
                  by_cases h61 : d = 61
                  · by_cases h2 : m + 1 < T.size ∧ L.getD (m + 1) 0 = 61
                    · obtain ⟨h2a, h2b⟩ := h2
                      have q9 : (m : Int) + 1 < (T.size : Int) := by omega
                      have q9' : m + 1 < T.size := h2a
                      have hd2 : T[m + 1] = 61 := by rw [← by_getD T (m + 1) h2a, HL.out]; exact h2b
                      have w2' : IntKind.i64.wrap ((m : Int) + 2) = (m : Int) + 2 := by rw [IntKind.wrap_i64]; omega
                      have q10 : (m : Int) ≤ (m : Int) + 2 := by omega
                      have q11 : (m : Int) + 2 ≤ (T.size : Int) := by omega
                      have HSG : Hid (sgn (L.drop m) = (15, 2) ∧ L.drop m = 61 :: 61 :: L.drop (m + 1 + 1)) := by
                        have e2 : L.drop m = 61 :: 61 :: L.drop (m + 1 + 1) := by rw [HG.out, h61, drop_cons L (m + 1) (by rw [HLN.out]; exact h2a), h2b]
                        refine ⟨?_, e2⟩
                        rw [e2]; rfl
                      have HX : Hid (T.extract m (m + 2) = bs (tok L i).text) := by
                        unfold Hid
                        apply by_inj
                        rw [by_ext, by_bs, HL.out, HTT.out, HSG.out.1, show m + 2 - m = 2 by omega]
                      subst h61
                      clear h2b
                      go_wp2_with fail
                      go_end0
                      refine HWD.out _ _ ⟨rfl, HFU.out.set 2 _, ?_⟩
                      rw [HL.out, tok_pst, HPS.out, HTB.out, HSG.out.1]
                      simp only [show decide ((15 : Nat) = 0) = false from rfl, if_neg (show ¬ false = true by decide)]
                      rw [← HX.out]
                      exact HU.out.s2 _
                    · have HSG : Hid (sgn (L.drop m) = (14, 1)) := by
                        unfold Hid
                        rw [HG.out, h61]
                        rcases sgn_eq (L.drop (m + 1)) with ⟨_, r', e⟩ | e
                        · exfalso
                          apply h2
                          have hl2 : m + 1 < L.length := by
                            apply Classical.byContradiction
                            intro hh
                            rw [List.drop_of_length_le (by omega)] at e
                            cases e
                          refine ⟨by rw [← HLN.out]; exact hl2, ?_⟩
                          rw [drop_cons L (m + 1) hl2] at e
                          injection e
                        · exact e
                      have HX : Hid (T.extract m (m + 1) = bs (tok L i).text) := by
                        unfold Hid
                        apply by_inj
                        rw [by_ext, by_bs, HL.out, HTT.out, HSG.out, show m + 1 - m = 1 by omega]
                      have q11 : (m : Int) + 1 ≤ (T.size : Int) := by omega
                      subst h61
                      by_cases h3 : m + 1 < T.size
                      · have q9 : (m : Int) + 1 < (T.size : Int) := by omega
                        obtain ⟨d2, hd2⟩ : ∃ d2, T[m + 1] = d2 := ⟨_, rfl⟩
                        have hd61 : ¬ d2 = 61 := fun e => h2 ⟨h3, by rw [← HL.out, by_getD T (m + 1) h3, hd2, e]⟩
                        have q12 : ((d2.toNat : Int) == 61) = false := (u8_eq d2 61).trans (decide_eq_false hd61)
                        clear h2 hd61
                        go_wp2_with fail
                        go_end0
                        refine HWD.out _ _ ⟨rfl, HFU.out.set 2 _, ?_⟩
                        rw [HL.out, tok_pst, HPS.out, HTB.out, HSG.out]
                        simp only [show decide ((14 : Nat) = 0) = false from rfl, if_neg (show ¬ false = true by decide)]
                        rw [← HX.out]
                        exact HU.out.s2 _
                      · have q9 : ¬ (m : Int) + 1 < (T.size : Int) := by omega
                        clear h2
                        go_wp2_with fail
                        go_end0
                        refine HWD.out _ _ ⟨rfl, HFU.out.set 2 _, ?_⟩
                        rw [HL.out, tok_pst, HPS.out, HTB.out, HSG.out]
                        simp only [show decide ((14 : Nat) = 0) = false from rfl, if_neg (show ¬ false = true by decide)]
                        rw [← HX.out]
                        exact HU.out.s2 _
                  · have HSG : Hid (sgn (L.drop m) = (sg1 d, 1)) := by
                      unfold Hid
                      rw [HG.out]
                      exact sgn_one _ h61
                    have HX : Hid (T.extract m (m + 1) = bs (tok L i).text) := by
                      unfold Hid
                      apply by_inj
                      rw [by_ext, by_bs, HL.out, HTT.out, HSG.out, show m + 1 - m = 1 by omega]
                    have q11 : (m : Int) + 1 ≤ (T.size : Int) := by omega
                    by_cases hs : sg1 d = 0
                    · obtain ⟨n1, n2, n3, n4, n5, n6, n7, n8⟩ := sg1_none d hs
                      have p0 : ((d.toNat : Int) == 61) = false := (u8_eq d 61).trans (decide_eq_false h61)
                      have p1 : ((d.toNat : Int) == 40) = false := (u8_eq d 40).trans (decide_eq_false n1)
                      have p2 : ((d.toNat : Int) == 41) = false := (u8_eq d 41).trans (decide_eq_false n2)
                      have p3 : ((d.toNat : Int) == 44) = false := (u8_eq d 44).trans (decide_eq_false n3)
                      have p4 : ((d.toNat : Int) == 59) = false := (u8_eq d 59).trans (decide_eq_false n4)
                      have p5 : ((d.toNat : Int) == 43) = false := (u8_eq d 43).trans (decide_eq_false n5)
                      have p6 : ((d.toNat : Int) == 45) = false := (u8_eq d 45).trans (decide_eq_false n6)
                      have p7 : ((d.toNat : Int) == 42) = false := (u8_eq d 42).trans (decide_eq_false n7)
                      have p8 : ((d.toNat : Int) == 47) = false := (u8_eq d 47).trans (decide_eq_false n8)
                      have HCF := hid (HFL.out R T ⟨#[]⟩ (m : Int) dp 0 0 5 (m : Int) w1 HU.out)
                      have HS0 := hid hs
                      clear n1 n2 n3 n4 n5 n6 n7 n8 h61 hs
                      go_wp2_with fail
                      refine HCF.out.mono ?_
                      rintro e w2 ⟨rfl, hf2, hr2⟩
                      have HR2 := hid hr2
                      have HF2 := hid (HFU.out.trans hf2)
                      clear hf2 hr2
                      go_wp2_with fail
                      go_end0
                      refine HWD.out _ _ ⟨rfl, HF2.out, ?_⟩
                      rw [HL.out, tok_pst, HPS.out, HTB.out, HSG.out, HS0.out]
                      exact HR2.out
                    · have HS0 := hid hs
                      have HEN : Hid (∀ W, W = w1.setCell ⟨R, 2, none⟩ (.string (T.extract m (m + 1))) → NxR R T i dp w (.returned (.tuple #[])) W) := by
                        intro W hW
                        rw [hW]
                        refine ⟨rfl, HFU.out.set 2 _, ?_⟩
                        rw [HL.out, tok_pst, HPS.out, HTB.out, HSG.out, decide_eq_false HS0.out]
                        simp only [if_neg (show ¬ false = true by decide)]
                        rw [← HX.out]
                        exact HU.out.s2 _
                      clear HX HSG HS0 HTB HTT HTW0 HG
                      rcases sg1_cases d hs with rfl | rfl | rfl | rfl | rfl | rfl | rfl | rfl
                      all_goals
                        clear hs h61
                        go_wp2_with fail
                        go_end0
                        exact HWD.out _ _ (HEN.out _ rfl)
            · obtain rfl : m = T.size := by omega
              have hlm2 : ¬ (T.size : Int) < (T.size : Int) := by omega
              have HTW : Hid ((L.drop k).takeWhile inWd = L.drop k) := tw_to _ _ (fun j hj => HB.out j (by rw [List.length_drop, HLN.out] at hj; exact hj))
              have q5 : ((T.size : Int) == (k : Int)) = false := by simp; omega
              have q6 : (k : Int) ≤ (T.size : Int) := by omega
              have HTK : Hid (tkb L i = false ∧ (tok L i).text = L.drop k) := by
                have hne2 : (L.drop k).takeWhile inWd ≠ [] := by rw [HTW.out, HG.out]; simp
                refine ⟨?_, ?_⟩
                · unfold tkb; rw [HBL.out]; simp [hne2]
                · unfold tok tokR; rw [HBL.out, if_neg (by rw [HG.out]; simp), if_pos hne2]; exact HTW.out
              have HX : Hid (T.extract k T.size = bs (L.drop k)) := by
                unfold Hid
                apply by_inj
                rw [by_ext, by_bs, HL.out]
                exact List.take_of_length_le (by rw [List.length_drop, HLN.out]; exact Nat.le_refl _)
              clear HB
              go_wp2_with fail
              go_end0
              refine HWD.out _ _ ⟨rfl, HFU.out.set 2 _, ?_⟩
              rw [HL.out, tok_pst, HPS.out, HTK.out.1, if_neg (by decide), if_neg (by decide), if_neg (by decide), HTK.out.2, ← HX.out]
              exact HU.out.s2 _
    · obtain rfl : k = T.size := by omega
      have hlt2 : ¬ (T.size : Int) < (T.size : Int) := by omega
      have hne : ((T.size : Int) == (T.size : Int)) = true := by simp
      have HBL : Hid (blank (L.drop i) = []) := by
        unfold Hid
        rw [← HA.out, List.drop_of_length_le (by rw [HLN.out]; exact Nat.le_refl _), blank]
      go_wp2_with fail
      go_end0
      refine HWD.out _ _ ⟨rfl, HF.out.set 1 _, ?_⟩
      have e1 : tok L i = ⟨1, T.size, []⟩ := by unfold tok tokR; rw [HBL.out, if_pos rfl, HLN.out]
      have e2 : tkb L i = false := by unfold tkb; rw [HBL.out]; simp
      rw [HL.out, e1, e2]
      exact HV.out.s1 _

end Go.Proofs.YtmmgkdcojkmlcaaGreatDoor
