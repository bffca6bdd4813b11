/- Package whole: a number written. -/
import Derived.Test.YtcajofdmadpmoaaWgAB
import Derived.Test.YtcajofdmadpmoaaFolL
namespace Go.Proofs.Ytcajofdmadpmoaa
open Go.RowKit

theorem Try.infoU8 : (Try.prog.info? 5).map (fun i => (i.zero, i.size, i.bytes)) = some (some (.int .u8 0), 1, 1) := by kernel_rfl
def u8s (bs : List Nat) : List Value := bs.map (fun (b : Nat) => Value.int .u8 (b : Int))
theorem u8s_app (a b : List Nat) : u8s (a ++ b) = u8s a ++ u8s b := List.map_append
/-- bytes of the call's own -/
def OwnB (base : Nat) (w : World) (v : Value) (bs : List Nat) : Prop := w.ownsRow base 5 1 v bs.length (u8s bs)
/-- all that is no bytes is as it was -/
def KU (w w' : World) : Prop := ∀ (g : Nat) (cs : Array Value) (t : TypeId) (f : Nat × Nat), w.heap[g]? = some (.cells cs t f) → t ≠ 5 → w'.heap[g]? = w.heap[g]?
theorem KU.refl (w : World) : KU w w := fun _ _ _ _ _ _ => rfl
theorem KU.trans {a b c : World} (h : KU a b) (k : KU b c) : KU a c := fun g cs t f e ht => (k g cs t f ((h g cs t f e ht).trans e) ht).trans (h g cs t f e ht)
theorem KU.below {w w' : World} (e : Below w.heap.size w w') : KU w w' := fun b _ _ _ h _ => e.block b (Array.getElem?_eq_some_iff.1 h).1
/-- how a writing ends -/
def ApE (base : Nat) (w : World) (bs : List Nat) (e : Ending) (w' : World) : Prop := ∃ v', e = .returned v' ∧ OwnB base w' v' bs ∧ Below base w w' ∧ KU w w'
/-- own bytes that turn leave lists -/
theorem OwnB.grown {base : Nat} {w w' : World} {v : Value} {bs : List Nat} (h : OwnB base w v bs) (e : w.grownBy w' v.ownBlock) (hb : base ≤ w.heap.size) : Below base w w' ∧ KU w w' := by
  refine ⟨(Below.refl base _).grown e hb (fun k hk => (World.ownsRow.lt h k hk).1), ?_⟩
  rcases h.2 with ⟨rfl, _⟩ | ⟨g, cap, cur, rfl, _, hg, _⟩
  · exact KU.below ⟨e.os, e.tape, e.output, e.size, fun b hb => e.block b hb (by simp [Value.ownBlock])⟩
  · intro b cs t f hx ht
    refine e.block b (Array.getElem?_eq_some_iff.1 hx).1 (fun en => ?_)
    injection en with en
    subst en
    rw [hg] at hx
    injection hx with hx
    injection hx with _ h3 _
    exact ht h3.symm
theorem vby_len (x : Nat) : 1 ≤ (vby x).length := by
  rw [vby]
  split <;> simp
theorem vby_len10 : ∀ (k x : Nat), x < 128 ^ (k + 1) → (vby x).length ≤ k + 1
  | 0, x, h => by rw [vby_small (by omega)]; simp
  | k + 1, x, h => by
    by_cases h1 : x < 128
    · rw [vby_small h1]; simp
    · rw [vby_big h1, List.length_cons]
      have := vby_len10 k (x / 128) (by rw [Nat.pow_succ] at h; omega)
      omega
theorem vby_le10 {x : Nat} (h : x < 18446744073709551616) : (vby x).length ≤ 10 := vby_len10 9 x (by have e : (128 : Nat) ^ (9 + 1) = 1180591620717411303424 := by decide
                                                                                                     rw [e]; omega)
theorem uzz_lt (n : Int) : uzz n < 18446744073709551616 := by unfold uzz; omega
theorem uzz_wrap (n : Int) : IntKind.u64.wrap n = (uzz n : Int) := by rw [IntKind.wrap_u64]; unfold uzz; omega

set_option maxRecDepth 100000 in
set_option maxHeartbeats 2000000 in
theorem appNumber_any (base : Nat) (bs : List Nat) (v : Value) (n : Int) (w : World) (hO : OwnB base w v bs) (hb : base ≤ w.heap.size) (hl0 : (bs ++ vbI n).length ≤ 70368744177664) : Calls Try.prog 7 #[v, .int .i64 n] w (ApE base w (bs ++ vbI n)) := by
  obtain ⟨i0, hi, hz0, hz1, hz2⟩ := info_parts Try.infoU8
  have hl : bs.length ≤ 70368744177664 := by rw [List.length_append] at hl0; omega
  clear hl0
  obtain ⟨X, hX⟩ : ∃ X, X = uzz n := ⟨_, rfl⟩
  have hcv : IntKind.u64.wrap n = (X : Int) := by rw [hX]; exact uzz_wrap n
  have hXl : X < 18446744073709551616 := by rw [hX]; exact uzz_lt n
  have hT : vbI n = vby X := by rw [hX]; rfl
  rw [hT]
  obtain ⟨T, hTT⟩ : ∃ T, T = vby X := ⟨_, rfl⟩
  have hTl : T.length ≤ 10 := by rw [hTT]; exact vby_le10 hXl
  rw [← hTT]
  have HT := hid hTT
  have HO := hid hO
  clear hX hT hO hTT
  go_enter Try.func7, Try.ntmps7
  go_wp2_with fail
  go_loopw [0, 5] (fun bv rv wr => ∃ (x : Nat) (l : List Nat), x < 18446744073709551616 ∧ rv = .int .u64 (x : Int) ∧ Hid (T = l ++ vby x ∧ OwnB base wr bv (bs ++ l) ∧ Below base w wr ∧ KU w wr)) (fun _ rv _ => (intOf rv).toNat)
  case atStart => exact ⟨X, [], hXl, rfl, by rw [HT.out]; rfl, by rw [List.append_nil]; exact HO.out, Below.refl _ _, KU.refl _⟩
  case round =>
    obtain ⟨x, l, hx, rfl, hI⟩ := hrel
    have hll : bs.length + l.length ≤ 70368744177674 := by
      have := hI.out.1
      have h2 : T.length = l.length + (vby x).length := by rw [this, List.length_append]
      omega
    by_cases h1 : x < 128
    · have h2 : ¬ ((128 : Int) ≤ (x : Int)) := by omega
      have hm : IntKind.u8.wrap (x : Int) = (x : Int) := by rw [IntKind.wrap_u8]; omega
      have HT2 : Hid (T = l ++ [x]) := by unfold Hid; rw [← vby_small h1]; exact hI.out.1
      have HOX := hid (World.ownsRow.alloc hI.out.2.1 (.cells #[.int .u8 ((x : Int))] 5))
      have hbw : base ≤ wr.heap.size := Nat.le_trans hb hI.out.2.2.1.size
      have HBW := hid hbw
      go_wp2_with (at_builtin; refine wpList_append_own _ rfl _ _ 22 rfl base 5 i0 (.int .u8 0) 1 1 Try.underlying22 hi hz0 hz1 hz2 rfl (by decide) _ _ _ rfl HOX.out ⟨wr.heap.size, 0, none⟩ 1 1 [.int .u8 ((x : Int))] rfl rfl (cell_one_new _ _ _) ?c2 ?c3 ?c4 ?c5 ?_)
      case c2 => first | rfl | (intro u hu; simp at hu; subst hu; rfl)
      case c3 => (try simp only [List.length_append]); unfold maxLen; omega
      case c4 => (try simp only [List.length_append]); omega
      case c5 => first | omega | (simp; omega)
      intro v' w5 hown2 hgrow _
      have hal : Below wr.heap.size wr (wr.alloc (.cells #[.int .u8 ((x : Int))] 5)) := (Below.refl _ _).alloc (Nat.le_refl _) _
      have hgr := OwnB.grown (bs := bs ++ l) HOX.out hgrow (Nat.le_trans HBW.out hal.size)
      have HE : Hid (OwnB base w5 v' (bs ++ T) ∧ Below base w w5 ∧ KU w w5) := by
        refine ⟨?_, hI.out.2.2.1.trans ((hal.mono HBW.out).trans hgr.1), hI.out.2.2.2.trans ((KU.below hal).trans hgr.2)⟩
        unfold OwnB
        rw [HT2.out, ← List.append_assoc, u8s_app, List.length_append, List.length_append]
        exact hown2
      clear hown2 hgrow hgr hal HOX hI
      go_wp2_with fail
      go_ret
      exact ⟨_, rfl, HE.out⟩
    · have h2 : (128 : Int) ≤ (x : Int) := by omega
      have HT2 : Hid (T = (l ++ [x % 128 + 128]) ++ vby (x / 128)) := by
        unfold Hid
        rw [List.append_assoc]
        refine hI.out.1.trans ?_
        rw [vby_big h1]
        rfl
      have HOX := hid (World.ownsRow.alloc hI.out.2.1 (.cells #[.int .u8 ((x : Int) % 128 + 128)] 5))
      have hbw : base ≤ wr.heap.size := Nat.le_trans hb hI.out.2.2.1.size
      have HBW := hid hbw
      go_wp2_with (at_builtin; refine wpList_append_own _ rfl _ _ 22 rfl base 5 i0 (.int .u8 0) 1 1 Try.underlying22 hi hz0 hz1 hz2 rfl (by decide) _ _ _ rfl HOX.out ⟨wr.heap.size, 0, none⟩ 1 1 [.int .u8 ((x : Int) % 128 + 128)] rfl rfl (cell_one_new _ _ _) ?c2 ?c3 ?c4 ?c5 ?_)
      case c2 => first | rfl | (intro u hu; simp at hu; subst hu; rfl)
      case c3 => (try simp only [List.length_append]); unfold maxLen; omega
      case c4 => (try simp only [List.length_append]); omega
      case c5 => first | omega | (simp; omega)
      intro v' w5 hown2 hgrow _
      have hal : Below wr.heap.size wr (wr.alloc (.cells #[.int .u8 ((x : Int) % 128 + 128)] 5)) := (Below.refl _ _).alloc (Nat.le_refl _) _
      have hgr := OwnB.grown (bs := bs ++ l) HOX.out hgrow (Nat.le_trans HBW.out hal.size)
      have HE : Hid (OwnB base w5 v' (bs ++ (l ++ [x % 128 + 128])) ∧ Below base w w5 ∧ KU w w5) := by
        refine ⟨?_, hI.out.2.2.1.trans ((hal.mono HBW.out).trans hgr.1), hI.out.2.2.2.trans ((KU.below hal).trans hgr.2)⟩
        unfold OwnB
        have e : u8s [x % 128 + 128] = [.int .u8 ((x : Int) % 128 + 128)] := by
          show [Value.int .u8 (((x % 128 + 128 : Nat)) : Int)] = _
          rw [show (((x % 128 + 128 : Nat)) : Int) = (x : Int) % 128 + 128 from by omega]
        rw [← List.append_assoc, u8s_app, e, List.length_append, List.length_append]
        exact hown2
      clear hown2 hgrow hgr hal HOX hI
      go_wp2_with fail
      go_roundw
      case rel => exact ⟨x / 128, l ++ [x % 128 + 128], by omega, by go_num, HT2.out, HE.out.1, HE.out.2.1, HE.out.2.2⟩
      case measure => simp [intOf]; omega

end Go.Proofs.Ytcajofdmadpmoaa
