/- Package source: Parse, as laws ask for it. Package source: of what rank a part is. Package source: an expression's part, written where it stands. -/
import Derived.Test.YthpkcageimhgaaaDoorSqAM
import Derived.Test.YthpkcageimhgaaaDoorSsA
import Derived.Test.YthpkcageimhgaaaDoorPrU
import Derived.Deep.RegionHeld3
namespace Go.Proofs.YthpkcageimhgaaaDoor
open Go.RowKit

/-- a text's functions, or its first fault -/
def prs (T : ByteArray) : Res (List FnT) := pRes (by' T) (4 * T.size + 1)
theorem prs_out (T : ByteArray) : prs T ≠ .out := by
  have h := pProg_fw (by' T) (4 * T.size + 1) [] 0 (Nat.zero_le _) (by rw [by_len]; omega)
  unfold prs pRes
  cases hq : pProg (by' T) (4 * T.size + 1) [] 0 with
  | out => rw [hq] at h; exact h.elim
  | bad e a => exact fun h => (nomatch h)
  | ok fs j =>
    cases hc : ckn fs (by' T).length with
    | none => simp [hc]
    | some y => simp [hc]
theorem parse_is (T : ByteArray) (w : World) (hTm : T.size ≤ 281474976710656) (hEv : EvW w) : Calls Tryd.prog 4 #[.string T] w (PaR w T.size (prs T)) :=
  parse_any T (4 * T.size + 1) w hTm hEv (prs T) rfl (prs_out T)

end Go.Proofs.YthpkcageimhgaaaDoor

namespace Go.Proofs.YthpkcageimhgaaaDoor
open Go.RowKit

/-- the rank of a kind -/
def prk (k : Nat) : Nat := if k < 4 then 3 else if k < 6 then 1 else if k < 8 then 2 else 0
set_option maxRecDepth 100000 in
set_option maxHeartbeats 2000000 in
theorem prank_any (b k at' n nk c : Nat) (nm : List UInt8) (av : Option Addr) (w : World) (hk12 : k < 12) (hh : w.heap[b]? = some (.cells #[.int .i64 (k : Int), .string (bs nm), .int .i64 (at' : Int), .int .i64 (n : Int), .slice av nk c] 84 (0, 0))) : Calls Tryd.prog 46 #[.pointer (some ⟨b, 0, none⟩)] w fun e w' => e = .returned (.int .i64 (prk k : Int)) ∧ w' = w := by
  have e0 : w.cell? ⟨b, 0, none⟩ = some (.int .i64 (k : Int)) := by simp [World.cell?, hh]
  clear hh
  by_cases k0 : k = 0
  · subst k0
    have HE : Hid ((prk 0 : Int) = 3) := rfl
    clear hk12
    go_enter Tryd.func46, Tryd.ntmps46
    go_wp2_with fail
    go_ret
    exact ⟨by rw [HE.out]; rfl, rfl⟩
  by_cases k1 : k = 1
  · subst k1
    have HE : Hid ((prk 1 : Int) = 3) := rfl
    clear hk12 k0
    go_enter Tryd.func46, Tryd.ntmps46
    go_wp2_with fail
    go_ret
    exact ⟨by rw [HE.out]; rfl, rfl⟩
  by_cases k2 : k = 2
  · subst k2
    have HE : Hid ((prk 2 : Int) = 3) := rfl
    clear hk12 k0 k1
    go_enter Tryd.func46, Tryd.ntmps46
    go_wp2_with fail
    go_ret
    exact ⟨by rw [HE.out]; rfl, rfl⟩
  by_cases k3 : k = 3
  · subst k3
    have HE : Hid ((prk 3 : Int) = 3) := rfl
    clear hk12 k0 k1 k2
    go_enter Tryd.func46, Tryd.ntmps46
    go_wp2_with fail
    go_ret
    exact ⟨by rw [HE.out]; rfl, rfl⟩
  by_cases k4 : k = 4
  · subst k4
    have HE : Hid ((prk 4 : Int) = 1) := rfl
    clear hk12 k0 k1 k2 k3
    go_enter Tryd.func46, Tryd.ntmps46
    go_wp2_with fail
    go_ret
    exact ⟨by rw [HE.out]; rfl, rfl⟩
  by_cases k5 : k = 5
  · subst k5
    have HE : Hid ((prk 5 : Int) = 1) := rfl
    clear hk12 k0 k1 k2 k3 k4
    go_enter Tryd.func46, Tryd.ntmps46
    go_wp2_with fail
    go_ret
    exact ⟨by rw [HE.out]; rfl, rfl⟩
  by_cases k6 : k = 6
  · subst k6
    have HE : Hid ((prk 6 : Int) = 2) := rfl
    clear hk12 k0 k1 k2 k3 k4 k5
    go_enter Tryd.func46, Tryd.ntmps46
    go_wp2_with fail
    go_ret
    exact ⟨by rw [HE.out]; rfl, rfl⟩
  by_cases k7 : k = 7
  · subst k7
    have HE : Hid ((prk 7 : Int) = 2) := rfl
    clear hk12 k0 k1 k2 k3 k4 k5 k6
    go_enter Tryd.func46, Tryd.ntmps46
    go_wp2_with fail
    go_ret
    exact ⟨by rw [HE.out]; rfl, rfl⟩
  by_cases k8 : k = 8
  · subst k8
    have HE : Hid ((prk 8 : Int) = 0) := rfl
    clear hk12 k0 k1 k2 k3 k4 k5 k6 k7
    go_enter Tryd.func46, Tryd.ntmps46
    go_wp2_with fail
    go_ret
    exact ⟨by rw [HE.out]; rfl, rfl⟩
  by_cases k9 : k = 9
  · subst k9
    have HE : Hid ((prk 9 : Int) = 0) := rfl
    clear hk12 k0 k1 k2 k3 k4 k5 k6 k7 k8
    go_enter Tryd.func46, Tryd.ntmps46
    go_wp2_with fail
    go_ret
    exact ⟨by rw [HE.out]; rfl, rfl⟩
  by_cases k10 : k = 10
  · subst k10
    have HE : Hid ((prk 10 : Int) = 0) := rfl
    clear hk12 k0 k1 k2 k3 k4 k5 k6 k7 k8 k9
    go_enter Tryd.func46, Tryd.ntmps46
    go_wp2_with fail
    go_ret
    exact ⟨by rw [HE.out]; rfl, rfl⟩
  by_cases k11 : k = 11
  · subst k11
    have HE : Hid ((prk 11 : Int) = 0) := rfl
    clear hk12 k0 k1 k2 k3 k4 k5 k6 k7 k8 k9 k10
    go_enter Tryd.func46, Tryd.ntmps46
    go_wp2_with fail
    go_ret
    exact ⟨by rw [HE.out]; rfl, rfl⟩
  omega

end Go.Proofs.YthpkcageimhgaaaDoor

namespace Go.Proofs.YthpkcageimhgaaaDoor
open Go.RowKit

/-- what text does -/
def PTX (it : Nat → List UInt8) (Ctx : World → Prop) (B : Nat → Prop) (N : Nat) : Prop := ∀ (t : Tr) (x : Value) (w : World), tsz t ≤ N → TW t → Ctx w → PTB B w t x → Calls Tryd.prog 18 #[x] w fun e w' => e = .returned (.string (bs (inT it t))) ∧ Below w.heap.size w w'
/-- a rank asks for brackets where so tight a hold does -/
def rkl (rk least : Nat) : Prop := ∀ k, k < 12 → (decide (prk k < rk) = decide (hld k < least))
theorem rkl0 : rkl 0 0 := by unfold rkl; decide
theorem rkl1 : rkl 1 2 := by unfold rkl; decide
theorem rkl2 : rkl 2 3 := by unfold rkl; decide
theorem rkl3 : rkl 3 4 := by unfold rkl; decide

set_option maxRecDepth 100000 in
set_option maxHeartbeats 2000000 in
theorem pown_of (it : Nat → List UInt8) (Ctx : World → Prop) (B : Nat → Prop) (N : Nat) (hI : PTX it Ctx B N) (b k at' n i rk least c : Nat) (nm : List UInt8) (av : Option Addr) (kids : List Tr) (t : Tr) (w : World) (hr : rkl rk least) (hN : tsz t ≤ N) (hT : TW t) (hC : Ctx w) (hi : i ≤ 4000)
    (hh : w.heap[b]? = some (.cells #[.int .i64 (k : Int), .string (bs nm), .int .i64 (at' : Int), .int .i64 (n : Int), .slice av kids.length c] 84 (0, 0))) (hK : PTBs B w av kids 0) (ht : kids[i]? = some t) (hl : (inT it t).length ≤ 100000000) :
    Calls Tryd.prog 31 #[.pointer (some ⟨b, 0, none⟩), .int .i64 (i : Int), .int .i64 (rk : Int)] w fun e w' => e = .returned (.string (bs (kt (inTs it kids) i least))) ∧ Below w.heap.size w w' := by
  have e4 : w.cell? ⟨b, 4, none⟩ = some (.slice av kids.length c) := by simp [World.cell?, hh]
  obtain ⟨g, v, rfl, _, hg, hv⟩ := hK.at ht
  rw [Nat.zero_add] at hg
  rw [kt_at it ht]
  have hik : (i : Int) < (kids.length : Int) := by
    rcases Nat.lt_or_ge i kids.length with h | h
    · omega
    · rw [List.getElem?_eq_none h] at ht; cases ht
  generalize kids.length = m at *
  have HT := hid (hI t v w hN hT hC hv)
  obtain ⟨kd, nm2, at2, nn2, kids2⟩ := t
  have hk12 : kd < 12 := shp_lt hT.1
  obtain ⟨b2, a2, c2, rfl, _, hh2, _⟩ := hv
  have HRK := hid (prank_any b2 kd at2 nn2 kids2.length c2 nm2 a2 w hk12 hh2)
  rw [show knd (.node kd nm2 at2 nn2 kids2) = kd from rfl]
  have hrk := hr kd hk12
  have hz : (bs (inT it (.node kd nm2 at2 nn2 kids2))).size ≤ 100000000 := by rw [bs_size]; exact hl
  have HPAR : Hid (bs (par (hld kd) least (inT it (.node kd nm2 at2 nn2 kids2))) = if decide (prk kd < rk) = true then (⟨#[40]⟩ : ByteArray) ++ bs (inT it (.node kd nm2 at2 nn2 kids2)) ++ (⟨#[41]⟩ : ByteArray) else bs (inT it (.node kd nm2 at2 nn2 kids2))) := by
    unfold Hid par
    rw [hrk]
    by_cases h : hld kd < least
    · rw [if_pos h, if_pos (decide_eq_true h), ← bs_app, ← bs_app]; rfl
    · rw [if_neg h, if_neg (by simpa using h)]
  generalize bs (par (hld kd) least (inT it (.node kd nm2 at2 nn2 kids2))) = RES at *
  generalize bs (inT it (.node kd nm2 at2 nn2 kids2)) = S at *
  generalize prk kd = pk at *
  have hi0 : (0 : Int) ≤ (i : Int) := by omega
  have z1 : ¬ 9223372036854775807 < 1 + S.size := by omega
  have z2 : ¬ 9223372036854775807 < 1 + S.size + 1 := by omega
  clear hh hK ht hl hI hr hT hC hN hk12 hh2 hrk hz
  by_cases hlt : pk < rk
  · have q : (pk : Int) < (rk : Int) := by omega
    rw [if_pos (decide_eq_true hlt)] at HPAR
    clear hlt
    go_enter Tryd.func31, Tryd.ntmps31
    go_wp2_with fail
    refine HRK.out.mono ?_
    rintro e w1 ⟨rfl, hw⟩
    have hw1 := hw.symm
    subst hw1
    go_wp2_with fail
    refine HT.out.mono ?_
    rintro e w2 ⟨rfl, hb2⟩
    have HB2 := hid hb2
    clear hb2
    go_wp2_with fail
    go_ret
    exact ⟨by rw [HPAR.out]; rfl, HB2.out⟩
  · have q : ¬ (pk : Int) < (rk : Int) := by omega
    rw [if_neg (by simpa using hlt)] at HPAR
    clear hlt
    go_enter Tryd.func31, Tryd.ntmps31
    go_wp2_with fail
    refine HRK.out.mono ?_
    rintro e w1 ⟨rfl, hw⟩
    have hw1 := hw.symm
    subst hw1
    go_wp2_with fail
    refine HT.out.mono ?_
    rintro e w2 ⟨rfl, hb2⟩
    have HB2 := hid hb2
    clear hb2
    go_wp2_with fail
    go_ret
    exact ⟨by rw [HPAR.out]; rfl, HB2.out⟩

end Go.Proofs.YthpkcageimhgaaaDoor
