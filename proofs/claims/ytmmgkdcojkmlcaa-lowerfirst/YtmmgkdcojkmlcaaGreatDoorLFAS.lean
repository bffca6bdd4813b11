/- The reference of programs as text: signs, words, names, levels. The reference of programs as text: names, levels. The reference of programs as text: numbers. Programs as text: how an expression is written. The reference of programs as text: expressions in memory; results one behind the other. The reference of programs as text: let. -/
import Derived.Test.YtmmgkdcojkmlcaaGreatDoorLFAR
import Derived.Test.YtmmgkdcojkmlcaaGreatDoorLFAA
namespace Go.Proofs.YtmmgkdcojkmlcaaGreatDoor
open Go.RowKit

/-- the reference's reader at a token -/
structure RgG (w : World) (R : Nat) (T : ByteArray) (j l : Nat) : Prop where
  h : RgR w R T ((tok (by' T) j).at' : Nat) (bs (tok (by' T) j).text) (l : Nat) 0 0
  ok : tkb (by' T) j = false
  le : j ≤ T.size
  small : T.size ≤ 4000
  lev : l ≤ 64
/-- .. behind a fault -/
def RgF (w : World) (R : Nat) (T : ByteArray) (e a : Nat) : Prop := e ≠ 0 ∧ ∃ at' tk dp, RgR w R T at' tk dp (e : Nat) (a : Nat)
/-- .. behind a result -/
def RgW {α : Type} (w : World) (R : Nat) (T : ByteArray) (r : Res α) (l : Nat) : Prop := match r with
  | .ok _ j => RgG w R T j l ∨ ((tok (by' T) j).kind = 0 ∧ RgF w R T 5 (tok (by' T) j).at')
  | .bad e a => RgF w R T e a
  | .out => False
section
variable {w w' : World} {R : Nat} {T : ByteArray} {j l : Nat} {α β : Type}
theorem RgG.keep (h : RgG w R T j l) (hk : w'.heap[R]? = w.heap[R]?) : RgG w' R T j l := ⟨hk.trans h.h, h.ok, h.le, h.small, h.lev⟩
theorem RgF.keep {e a : Nat} (h : RgF w R T e a) (hk : w'.heap[R]? = w.heap[R]?) : RgF w' R T e a := by
  obtain ⟨h1, x, y, z, h2⟩ := h
  exact ⟨h1, x, y, z, hk.trans h2⟩
theorem RgW.keep {r : Res α} (h : RgW w R T r l) (hk : w'.heap[R]? = w.heap[R]?) : RgW w' R T r l := by
  cases r with
  | out => exact h.elim
  | bad e a => exact RgF.keep h hk
  | ok x j =>
    rcases h with h | ⟨h1, h2⟩
    · exact Or.inl (h.keep hk)
    · exact Or.inr ⟨h1, h2.keep hk⟩
theorem RgW.lt {r : Res α} (h : RgW w R T r l) : R < w.heap.size := by
  cases r with
  | out => exact h.elim
  | bad e a => obtain ⟨_, _, _, _, h⟩ := h; exact h.lt
  | ok x j =>
    rcases h with h | ⟨_, _, _, _, _, h⟩
    · exact h.h.lt
    · exact h.lt
theorem RgW.of {r : Res α} {r' : Res β} (h : RgW w R T r l) (hr : r'.bind (fun _ j => .ok () j) = r.bind (fun _ j => .ok () j)) : RgW w R T r' l := by
  cases r with
  | out => exact h.elim
  | bad e a =>
    cases r' with
    | out => cases hr
    | bad e' a' => injection hr with h1 h2; subst h1 h2; exact h
    | ok x j => cases hr
  | ok x j =>
    cases r' with
    | out => cases hr
    | bad e' a' => cases hr
    | ok y k => injection hr with h1 h2; subst h2; exact h
/-- either it goes on, or it doesn't -/
theorem RgW.cases {r : Res α} (h : RgW w R T r l) : (∃ x j, r = .ok x j ∧ RgG w R T j l) ∨ ∃ e a, RgF w R T e a ∧ (r = .bad e a ∨ ∃ x j, r = .ok x j ∧ (tok (by' T) j).kind = 0 ∧ e = 5 ∧ a = (tok (by' T) j).at') := by
  cases r with
  | out => exact h.elim
  | bad e a => exact Or.inr ⟨e, a, h, Or.inl rfl⟩
  | ok x j =>
    rcases h with h | ⟨h1, h2⟩
    · exact Or.inl ⟨x, j, rfl, h⟩
    · exact Or.inr ⟨_, _, h2, Or.inr ⟨x, j, rfl, h1, rfl, rfl⟩⟩
end

set_option maxRecDepth 100000 in
theorem ron_any (R j l : Nat) (T : ByteArray) (w : World) (h : RgG w R T j l) : Calls Tryz.prog 64 #[.pointer (some ⟨R, 0, none⟩)] w fun en w' => en = .returned (.tuple #[]) ∧ Fr R w w' ∧ RgW w' R T (.ok () (tok (by' T) j).nx) l := by
  have hta := tok_at (by' T) j (by rw [by_len]; exact h.le)
  rw [by_len] at hta
  have hsm := h.small
  have hsz : (bs (tok (by' T) j).text).size = (tok (by' T) j).text.length := bs_size _
  have HNX : Hid ((tok (by' T) j).nx ≤ T.size) := hta.2.1
  have HNE : Hid ((tok (by' T) j).nx = (tok (by' T) j).at' + (tok (by' T) j).text.length) := rfl
  have HH := hid h
  have c1 := h.h.c1
  have c2 := h.h.c2
  have HC := hid (rnext_any R (tok (by' T) j).nx T _ _ _ w.drew (show RgR w.drew R T _ _ _ _ _ from h.h) HNX.out hsm)
  have hw : IntKind.i64.wrap (((tok (by' T) j).at' : Int) + ((bs (tok (by' T) j).text).size : Int)) = ((tok (by' T) j).nx : Int) := by rw [IntKind.wrap_i64, hsz]; have := HNX.out; have := HNE.out; omega
  have HEN : Hid (∀ e W, NxR R T (tok (by' T) j).nx (l : Nat) w.drew e W → e = .returned (.tuple #[]) ∧ Fr R w W ∧ RgW W R T (.ok () (tok (by' T) j).nx) l) := fun e W hn => by
    refine ⟨hn.1, ((Fr.refl R w).drew).trans hn.2.1, ?_⟩
    have h3 := hn.2.2
    cases hb : tkb (by' T) (tok (by' T) j).nx with
    | true =>
      rw [hb] at h3
      exact Or.inr ⟨tkb_kind hb, by decide, _, _, _, h3⟩
    | false =>
      rw [hb] at h3
      exact Or.inl ⟨h3, hb, HNX.out, hsm, HH.out.lev⟩
  generalize (tok (by' T) j).nx = nx at *
  generalize (tok (by' T) j).at' = at' at *
  generalize bs (tok (by' T) j).text = tx at *
  have hmx : Tryz.prog.follows .mixedOrders = true := by kernel_rfl
  have d1 : ∀ d, ({ w with drawn := d } : World).cell? ⟨R, 1, none⟩ = some (.int .i64 (at' : Int)) := fun d => c1
  have d2 : ∀ d, ({ w with drawn := d } : World).cell? ⟨R, 2, none⟩ = some (.string tx) := fun d => c2
  clear hta h hsz HNE
  go_enter Tryz.func64, Tryz.ntmps64
  go_wp2_with fail
  go_still_tail 11, hmx
  go_wp2_with fail
  refine HC.out.mono ?_
  intro e w1 he
  obtain ⟨rfl, he2⟩ := HEN.out e w1 he
  have HE2 := hid he2
  clear he2 he
  go_wp2_with fail
  go_end0
  exact ⟨rfl, HE2.out⟩

set_option maxRecDepth 100000 in
set_option maxHeartbeats 1000000 in
theorem rtake_any {α : Type} (R l k : Nat) (T s : ByteArray) (r : Res α) (w : World) (h : RgW w R T r l) (h4 : 4 ≤ k) (h19 : k ≤ 19) (hs : by' s = spll k) : Calls Tryz.prog 40 #[.pointer (some ⟨R, 0, none⟩), .string s] w fun en w' => Fr R w w' ∧
    ((en = .returned (.bool true) ∧ ∃ x j, r = .ok x j ∧ (tok (by' T) j).kind = k ∧ RgW w' R T (.ok x (tok (by' T) j).nx) l) ∨ (en = .returned (.bool false) ∧ RgW w' R T r l ∧ ∀ x j, r = .ok x j → ¬ (tok (by' T) j).kind = k)) := by
  rcases h.cases with ⟨x, j, rfl, hg⟩ | ⟨e, a, hf, hr⟩
  · have c4 := hg.h.c4
    have c2 := hg.h.c2
    have HS := hid (tok_spl (by' T) j k h4 h19)
    by_cases hk : (tok (by' T) j).kind = k
    · have q : ((bs (tok (by' T) j).text).toList == s.toList) = true := by rw [bs_list, by_list, hs, HS.out.1 hk]; simp
      have HO := hid (ron_any R j l T w hg)
      have HK := hid hk
      generalize bs (tok (by' T) j).text = tx at *
      clear hg h hk
      go_enter Tryz.func40, Tryz.ntmps40
      go_wp2_with fail
      refine HO.out.mono ?_
      rintro e w1 ⟨rfl, hf, hr⟩
      have HF := hid hf
      have HR := hid hr
      clear hf hr
      go_wp2_with fail
      go_ret
      exact ⟨HF.out, Or.inl ⟨rfl, x, j, rfl, HK.out, HR.out.of rfl⟩⟩
    · have q : ((bs (tok (by' T) j).text).toList == s.toList) = false := by
        rw [bs_list, by_list, hs]
        simp
        exact fun e => hk (HS.out.2 e)
      have HH := hid h
      have HK := hid hk
      generalize bs (tok (by' T) j).text = tx at *
      clear hg h hk
      go_enter Tryz.func40, Tryz.ntmps40
      go_wp2_with fail
      go_ret
      exact ⟨Fr.refl _ _, Or.inr ⟨rfl, HH.out, fun x' j' e => by injection e with _ e; subst e; exact HK.out⟩⟩
  · obtain ⟨he, at', tk, dp, hR⟩ := hf
    have c4 := hR.c4
    have q : ((e : Int) != 0) = true := by simp; omega
    have HH := hid h
    have HN : Hid (∀ x j, r = .ok x j → ¬ (tok (by' T) j).kind = k) := fun x j e' => by
      rcases hr with h1 | ⟨x', j', h1, h2, _⟩
      · rw [h1] at e'; cases e'
      · rw [h1] at e'; injection e' with _ e'; subst e'; omega
    clear hR h hr
    go_enter Tryz.func40, Tryz.ntmps40
    go_wp2_with fail
    go_ret
    exact ⟨Fr.refl _ _, Or.inr ⟨rfl, HH.out, HN.out⟩⟩

set_option maxRecDepth 100000 in
set_option maxHeartbeats 1000000 in
/-- a fault here and now, if there was none -/
theorem rwant_any {α : Type} (R l k : Nat) (T s : ByteArray) (r : Res α) (w : World) (h : RgW w R T r l) (h4 : 4 ≤ k) (h19 : k ≤ 19) (hs : by' s = spll k) : Calls Tryz.prog 38 #[.pointer (some ⟨R, 0, none⟩), .string s] w fun en w' => en = .returned (.tuple #[]) ∧ Fr R w w' ∧ RgW w' R T (r.bind fun x j => (pTake (by' T) k j).bind fun _ a => .ok x a) l := by
  have hnot : ∀ (x : Bool) (w : World), (Op.unary .not (.bool x)).run Tryz.prog w = .ok (.bool (!x)) w := fun _ _ => rfl
  have HT := hid (rtake_any R l k T s r w h h4 h19 hs)
  clear h hs
  go_enter Tryz.func38, Tryz.ntmps38
  go_wp2_with fail
  refine HT.out.mono ?_
  rintro e w1 ⟨hf, ⟨rfl, x, j, hr, hk, hm⟩ | ⟨rfl, hm, hk⟩⟩
  · have HE : Hid (Fr R w w1 ∧ RgW w1 R T (r.bind fun x j => (pTake (by' T) k j).bind fun _ a => .ok x a) l) := ⟨hf, by
      rw [hr]
      show RgW w1 R T ((pTake (by' T) k j).bind fun _ a => .ok x a) l
      unfold pTake
      rw [if_pos hk]
      exact hm⟩
    clear hf hm hr hk HT
    go_wp2_with fail
    go_end0
    exact ⟨rfl, HE.out⟩
  · have HF1 := hid hf
    rcases hm.cases with ⟨x, j, hr, hg⟩ | ⟨e, a, hfa, hr⟩
    · have hk := hk x j hr
      have c1 := hg.h.c1
      have HFL := hid (rfail_any R T _ _ _ _ _ 5 ((tok (by' T) j).at' : Nat) w1 hg.h)
      have HE : Hid (∀ W, RgF W R T 5 (tok (by' T) j).at' → RgW W R T (r.bind fun x j => (pTake (by' T) k j).bind fun _ a => .ok x a) l) := fun W hW => by
        rw [hr]
        show RgW W R T ((pTake (by' T) k j).bind fun _ a => .ok x a) l
        unfold pTake
        rw [if_neg hk]
        exact hW
      clear hf hm hg hr hk HT
      go_wp2_with fail
      refine HFL.out.mono ?_
      rintro e w2 ⟨rfl, hf2, hr2⟩
      have HX : Hid (Fr R w w2 ∧ RgW w2 R T (r.bind fun x j => (pTake (by' T) k j).bind fun _ a => .ok x a) l) := ⟨HF1.out.trans hf2, HE.out w2 ⟨by decide, _, _, _, hr2⟩⟩
      clear hf2 hr2 HFL
      go_wp2_with fail
      go_end0
      exact ⟨rfl, HX.out⟩
    · obtain ⟨he, at', tk, dp, hR⟩ := hfa
      have c1 := hR.c1
      have HFL := hid (rfail_any R T _ _ _ _ _ 5 at' w1 hR)
      rw [if_neg (by omega), if_neg (by omega)] at HFL
      have HE : Hid (∀ W, RgF W R T e a → RgW W R T (r.bind fun x j => (pTake (by' T) k j).bind fun _ a => .ok x a) l) := fun W hW => by
        rcases hr with h1 | ⟨x', j', h1, h2, h3, h4⟩
        · rw [h1]; exact hW
        · rw [h1]
          show RgW W R T ((pTake (by' T) k j').bind fun _ a => .ok x' a) l
          unfold pTake
          rw [if_neg (hk x' j' h1)]
          subst h3 h4
          exact hW
      clear hf hm hR hr hk HT
      go_wp2_with fail
      refine HFL.out.mono ?_
      rintro e' w2 ⟨rfl, hf2, hr2⟩
      have HX : Hid (Fr R w w2 ∧ RgW w2 R T (r.bind fun x j => (pTake (by' T) k j).bind fun _ a => .ok x a) l) := ⟨HF1.out.trans hf2, HE.out w2 ⟨he, _, _, _, hr2⟩⟩
      clear hf2 hr2 HFL
      go_wp2_with fail
      go_end0
      exact ⟨rfl, HX.out⟩

end Go.Proofs.YtmmgkdcojkmlcaaGreatDoor

namespace Go.Proofs.YtmmgkdcojkmlcaaGreatDoor
open Go.RowKit

set_option maxHeartbeats 1000000 in
theorem rres_any (s : ByteArray) (w : World) : Calls Tryz.prog 63 #[.string s] w fun e w' => e = .returned (.bool (decide (¬ kwd (by' s) = 2))) ∧ w' = w := by
  have e : decide (¬ kwd (by' s) = 2) = (s.toList == [102, 110] || s.toList == [108, 101, 116] || s.toList == [110, 101, 101, 100] || s.toList == [105, 102] || s.toList == [116, 104, 101, 110] || s.toList == [101, 108, 115, 101]) := by
    rw [by_list]
    unfold kwd
    generalize by' s = t
    repeat' split
    all_goals simp_all
  rw [e]
  clear e
  cases x1 : s.toList == [102, 110] with
  | true =>
    go_enter Tryz.func63, Tryz.ntmps63
    go_wp2_with fail
    go_ret
    exact ⟨rfl, rfl⟩
  | false =>
    cases x2 : s.toList == [108, 101, 116] with
    | true =>
      go_enter Tryz.func63, Tryz.ntmps63
      go_wp2_with fail
      go_ret
      exact ⟨rfl, rfl⟩
    | false =>
      cases x3 : s.toList == [110, 101, 101, 100] with
      | true =>
        go_enter Tryz.func63, Tryz.ntmps63
        go_wp2_with fail
        go_ret
        exact ⟨rfl, rfl⟩
      | false =>
        cases x4 : s.toList == [105, 102] with
        | true =>
          go_enter Tryz.func63, Tryz.ntmps63
          go_wp2_with fail
          go_ret
          exact ⟨rfl, rfl⟩
        | false =>
          cases x5 : s.toList == [116, 104, 101, 110] with
          | true =>
            go_enter Tryz.func63, Tryz.ntmps63
            go_wp2_with fail
            go_ret
            exact ⟨rfl, rfl⟩
          | false =>
            cases x6 : s.toList == [101, 108, 115, 101] with
            | true =>
              go_enter Tryz.func63, Tryz.ntmps63
              go_wp2_with fail
              go_ret
              exact ⟨rfl, rfl⟩
            | false =>
              go_enter Tryz.func63, Tryz.ntmps63
              go_wp2_with fail
              go_ret
              exact ⟨rfl, rfl⟩
/-- a token is a name, or why it is none -/
theorem tok_name {L : List UInt8} {j : Nat} {c : UInt8} {t : List UInt8} (hb : tkb L j = false) (ht : (tok L j).text = c :: t) : (tok L j).kind = 2 ↔ (isLt c = true ∧ kwd (tok L j).text = 2) := by
  rcases tok_not L j hb with ⟨h1, _, _⟩ | ⟨_, h2⟩ | ⟨h1, c', t', h2, h3⟩
  · rw [h1, ht, wkd]
    by_cases hc : isLt c = true
    · rw [if_pos hc]; simp [hc]
    · rw [if_neg hc]
      constructor
      · intro h
        repeat' split at h
        all_goals omega
      · intro h; exact absurd h.1 hc
  · rw [h2] at ht; cases ht
  · rw [h2] at ht
    injection ht with e1 _
    constructor
    · intro h; omega
    · intro h
      have : inWd c = true := by unfold inWd; rw [h.1]; simp
      rw [← e1, h3] at this; cases this
theorem pName_not {L : List UInt8} {j : Nat} (h : ¬ (tok L j).kind = 2) : pName L j = .bad 5 (tok L j).at' := by
  unfold pName pTake
  rw [if_neg h]
  rfl
/-- what name leaves -/
def RgNm {α : Type} (R : Nat) (T : ByteArray) (r : Res α) (l : Nat) (w : World) (en : Ending) (w' : World) : Prop := ∃ v, en = .returned (.string v) ∧ Fr R w w' ∧ RgW w' R T (r.bind fun _ j => pName (by' T) j) l ∧ ∀ x j, (r.bind fun _ j => pName (by' T) j) = .ok x j → v = bs x.1

set_option maxRecDepth 100000 in
set_option maxHeartbeats 1000000 in
theorem rname_any {α : Type} (R l : Nat) (T : ByteArray) (r : Res α) (w : World) (h : RgW w R T r l) : Calls Tryz.prog 39 #[.pointer (some ⟨R, 0, none⟩)] w (RgNm R T r l w) := by
  have hnot : ∀ (x : Bool) (w : World), (Op.unary .not (.bool x)).run Tryz.prog w = .ok (.bool (!x)) w := fun _ _ => rfl
  have HWD : Hid (∀ v W, Fr R w W → RgW W R T (r.bind fun _ j => pName (by' T) j) l → (∀ x j, (r.bind fun _ j => pName (by' T) j) = .ok x j → v = bs x.1) → RgNm R T r l w (.returned (.string v)) W) := fun v W h1 h2 h3 => ⟨v, rfl, h1, h2, h3⟩
  rcases h.cases with ⟨x, j, hr, hg⟩ | ⟨e, a, hf, hr⟩
  · have c1 := hg.h.c1
    have c2 := hg.h.c2
    have c4 := hg.h.c4
    have HBD : Hid (∀ W er, Fr R w W → (r.bind fun _ j => pName (by' T) j) = .bad er (tok (by' T) j).at' → er ≠ 0 → RgR W R T ((tok (by' T) j).at' : Nat) (bs (tok (by' T) j).text) (l : Nat) (er : Nat) ((tok (by' T) j).at' : Nat) → RgNm R T r l w (.returned (.string ⟨#[]⟩)) W) := fun W er h1 h2 h3 h4 => HWD.out _ W h1 (by rw [h2]; exact ⟨h3, _, _, _, h4⟩) (fun x j h => by rw [h2] at h; cases h)
    have HB : Hid ((r.bind fun _ j => pName (by' T) j) = pName (by' T) j) := by unfold Hid; rw [hr]; rfl
    have HG := hid hg
    cases htx : (tok (by' T) j).text with
    | nil =>
      have HK : Hid (pName (by' T) j = .bad 5 (tok (by' T) j).at') := pName_not (by
        have := (tok_end (by' T) j (by rw [by_len]; exact hg.le)).2 htx
        omega)
      rw [htx] at c2
      have q : ((bs []).toList == []) = true := by rw [bs_list]; rfl
      have HFL := hid (rfail_any R T _ _ _ _ _ 5 ((tok (by' T) j).at' : Nat) w hg.h)
      generalize hbs : bs [] = tx at c2 q
      clear hg h hr hbs
      go_enter Tryz.func39, Tryz.ntmps39
      go_wp2_with fail
      refine HFL.out.mono ?_
      rintro e w1 ⟨rfl, hf, hr⟩
      have HE := hid (HBD.out w1 5 hf (HB.out.trans HK.out) (by decide) hr)
      clear hf hr
      go_wp2_with fail
      go_ret
      exact HE.out
    | cons c t =>
      have hne : ((bs (tok (by' T) j).text).toList == []) = false := by rw [bs_list, htx]; rfl
      have h0 : 0 < (bs (tok (by' T) j).text).size := by rw [bs_size, htx]; simp
      have hc : (bs (tok (by' T) j).text)[0] = c := by rw [bs_get]; simp [htx]
      have HN := hid (tok_name hg.ok htx)
      have HLT := hid (rlet_any c)
      have HRS := hid (rres_any (bs (tok (by' T) j).text))
      rw [by_bs] at HRS
      have hsz : (bs (tok (by' T) j).text).size = (tok (by' T) j).text.length := bs_size _
      have HFL := hid (fun er => rfail_any R T _ _ _ _ _ er ((tok (by' T) j).at' : Nat) w hg.h)
      have HON := hid (ron_any R j l T w hg)
      have h00 : (0 : Int) < ((bs (tok (by' T) j).text).size : Int) := by omega
      have HPN : Hid ((tok (by' T) j).kind = 2 → pName (by' T) j = if 16 < (tok (by' T) j).text.length then .bad 3 (tok (by' T) j).at' else .ok ((tok (by' T) j).text, (tok (by' T) j).at') (tok (by' T) j).nx) := fun hk => by
        unfold pName pTake
        rw [if_pos hk]
        rfl
      have HNT := hid (@pName_not (by' T) j)
      have HTX : Hid (bs (tok (by' T) j).text = bs (tok (by' T) j).text) := rfl
      clear htx hg h hr
      unfold Hid at HTX
      generalize hgt : bs (tok (by' T) j).text = tx at *
      generalize (tok (by' T) j).text = tl at *
      replace HTX := hid hgt
      clear hgt
      generalize (tok (by' T) j).at' = at' at *
      by_cases hl : isLt c = true
      · by_cases hkw : kwd tl = 2
        · have hk := HN.out.2 ⟨hl, hkw⟩
          have HKP := hid (HPN.out hk)
          rw [hl] at HLT
          rw [decide_eq_false (by simpa using hkw)] at HRS
          by_cases h16 : 16 < tl.length
          · rw [if_pos h16] at HKP
            have q16 : (16 : Int) < (tx.size : Int) := by omega
            clear hl hkw hk h16 hsz
            go_enter Tryz.func39, Tryz.ntmps39
            go_wp2_with fail
            refine (HLT.out w).mono ?_
            rintro e w1 ⟨rfl, rfl⟩
            go_wp2_with fail
            refine (HRS.out w1).mono ?_
            rintro e w2 ⟨rfl, rfl⟩
            go_wp2_with fail
            refine (HFL.out 3).mono ?_
            rintro e w3 ⟨rfl, hf, hr⟩
            have HE := hid (HBD.out w3 3 hf (HB.out.trans HKP.out) (by decide) hr)
            clear hf hr
            go_wp2_with fail
            go_ret
            exact HE.out
          · rw [if_neg h16] at HKP
            have q16 : ¬ (16 : Int) < (tx.size : Int) := by omega
            clear hl hkw hk h16 hsz
            go_enter Tryz.func39, Tryz.ntmps39
            go_wp2_with fail
            refine (HLT.out w).mono ?_
            rintro e w1 ⟨rfl, rfl⟩
            go_wp2_with fail
            refine (HRS.out w1).mono ?_
            rintro e w2 ⟨rfl, rfl⟩
            go_wp2_with fail
            refine HON.out.mono ?_
            rintro e w3 ⟨rfl, hf, hr⟩
            have HE := hid (HWD.out tx w3 hf (by rw [HB.out, HKP.out]; exact hr.of rfl) (fun x j h => by rw [HB.out, HKP.out] at h; injection h with h _; rw [← h]; exact HTX.out.symm))
            clear hf hr
            go_wp2_with fail
            go_ret
            exact HE.out
        · have HKP := hid (HNT.out (fun h => hkw (HN.out.1 h).2))
          rw [hl] at HLT
          rw [decide_eq_true (by simpa using hkw)] at HRS
          clear hl hkw
          go_enter Tryz.func39, Tryz.ntmps39
          go_wp2_with fail
          refine (HLT.out w).mono ?_
          rintro e w1 ⟨rfl, rfl⟩
          go_wp2_with fail
          refine (HRS.out w1).mono ?_
          rintro e w2 ⟨rfl, rfl⟩
          go_wp2_with fail
          refine (HFL.out 5).mono ?_
          rintro e w3 ⟨rfl, hf, hr⟩
          have HE := hid (HBD.out w3 5 hf (HB.out.trans HKP.out) (by decide) hr)
          clear hf hr
          go_wp2_with fail
          go_ret
          exact HE.out
      · have HKP := hid (HNT.out (fun h => hl (HN.out.1 h).1))
        have hl' : isLt c = false := by simpa using hl
        rw [hl'] at HLT
        generalize decide (¬ kwd tl = 2) = z at HRS
        clear hl hl'
        go_enter Tryz.func39, Tryz.ntmps39
        go_wp2_with fail
        refine (HLT.out w).mono ?_
        rintro e w1 ⟨rfl, rfl⟩
        go_wp2_with fail
        refine (HRS.out w1).mono ?_
        rintro e w2 ⟨rfl, rfl⟩
        go_wp2_with fail
        refine (HFL.out 5).mono ?_
        rintro e w3 ⟨rfl, hf, hr⟩
        have HE := hid (HBD.out w3 5 hf (HB.out.trans HKP.out) (by decide) hr)
        clear hf hr
        go_wp2_with fail
        go_ret
        exact HE.out
  · have HRB : Hid ((r.bind fun _ j => pName (by' T) j) = .bad e a) := by
      rcases hr with h1 | ⟨x, j, h1, h2, h3, h4⟩
      · unfold Hid; rw [h1]; rfl
      · unfold Hid
        rw [h1, h3, h4]
        exact pName_not (by omega)
    obtain ⟨he, at', tk, dp, hR⟩ := hf
    have c1 := hR.c1
    have c2 := hR.c2
    have c4 := hR.c4
    have q : ((e : Int) != 0) = true := by simp; omega
    have HFL := hid (rfail_any R T _ _ _ _ _ 5 at' w hR)
    rw [if_neg (by omega), if_neg (by omega)] at HFL
    have HE := hid he
    clear hR h hr he
    go_enter Tryz.func39, Tryz.ntmps39
    go_wp2_with fail
    refine HFL.out.mono ?_
    rintro e' w1 ⟨rfl, hf, hr⟩
    have HX := hid (HWD.out ⟨#[]⟩ w1 hf (by rw [HRB.out]; exact ⟨HE.out, _, _, _, hr⟩) (fun x j h => by rw [HRB.out] at h; cases h))
    clear hf hr
    go_wp2_with fail
    go_ret
    exact HX.out

set_option maxRecDepth 100000 in
set_option maxHeartbeats 1000000 in
theorem rdeep_any (R j l k : Nat) (T : ByteArray) (w : World) (h : RgG w R T j l) (hk : (tok (by' T) j).kind = k) : Calls Tryz.prog 65 #[.pointer (some ⟨R, 0, none⟩)] w fun en w' => ∃ b, en = .returned (.bool b) ∧ Fr R w w' ∧ RgW w' R T (pEnter (by' T) k j l) (l + 1) := by
  have c1 := h.h.c1
  have c3 := h.h.c3
  have c4 := h.h.c4
  have f3 := h.h.fz 3
  have hw : IntKind.i64.wrap ((l : Int) + 1) = (l : Int) + 1 := by rw [IntKind.wrap_i64]; have := h.lev; omega
  have hP : pEnter (by' T) k j l = if l = 64 then .bad 9 (tok (by' T) j).at' else .ok () (tok (by' T) j).nx := by
    unfold pEnter pTake
    rw [if_pos hk]
    rfl
  rw [hP]
  obtain ⟨V, hV⟩ : ∃ V, V = w.setCell ⟨R, 3, none⟩ (.int .i64 ((l : Int) + 1)) := ⟨_, rfl⟩
  have hRV : RgR V R T ((tok (by' T) j).at' : Nat) (bs (tok (by' T) j).text) ((l : Int) + 1) 0 0 := by rw [hV]; exact h.h.s3 _
  have HF : Hid (Fr R w V) := by unfold Hid; rw [hV]; exact (Fr.refl R w).set 3 _
  have v1 := hRV.c1
  have v3 := hRV.c3
  by_cases h64 : l = 64
  · rw [if_pos h64]
    have q : (64 : Int) < (l : Int) + 1 := by omega
    have HFL := hid (rfail_any R T _ _ _ _ _ 9 ((tok (by' T) j).at' : Nat) V hRV)
    clear h64 h hRV hk hP
    go_enter Tryz.func65, Tryz.ntmps65
    go_wp2_with fail
    rw [← hV]
    clear hV
    go_wp2_with fail
    refine HFL.out.mono ?_
    rintro e w1 ⟨rfl, hf, hr⟩
    have HE : Hid (Fr R w w1 ∧ RgW w1 R T (.bad 9 (tok (by' T) j).at' : Res Unit) (l + 1)) := ⟨HF.out.trans hf, by decide, _, _, _, hr⟩
    clear hf hr
    go_wp2_with fail
    go_ret
    first | exact ⟨_, rfl, HE.out⟩ | exact ⟨rfl, HE.out⟩ | exact HE.out
  · rw [if_neg h64]
    have q : ¬ (64 : Int) < (l : Int) + 1 := by have := h.lev; omega
    have HON := hid (ron_any R j (l + 1) T V ⟨hRV, h.ok, h.le, h.small, by have := h.lev; omega⟩)
    clear h64 h hRV hk hP
    go_enter Tryz.func65, Tryz.ntmps65
    go_wp2_with fail
    rw [← hV]
    clear hV
    go_wp2_with fail
    refine HON.out.mono ?_
    rintro e w1 ⟨rfl, hf, hr⟩
    have HE : Hid (Fr R w w1 ∧ RgW w1 R T (.ok () (tok (by' T) j).nx : Res Unit) (l + 1)) := ⟨HF.out.trans hf, hr⟩
    clear hf hr
    go_wp2_with fail
    go_ret
    first | exact ⟨_, rfl, HE.out⟩ | exact ⟨rfl, HE.out⟩ | exact HE.out

end Go.Proofs.YtmmgkdcojkmlcaaGreatDoor

namespace Go.Proofs.YtmmgkdcojkmlcaaGreatDoor
open Go.RowKit

theorem numV_snoc (t : List UInt8) (c : UInt8) : numV (t ++ [c]) = numV t * 10 + (c.toNat - 48) := by
  unfold numV
  rw [List.foldl_append]
  rfl
theorem numV_take (t : List UInt8) (i : Nat) (h : i < t.length) : numV (t.take (i + 1)) = numV (t.take i) * 10 + ((t.getD i 0).toNat - 48) := by
  rw [List.take_add_one, List.getElem?_eq_getElem h, List.getD_eq_getElem?_getD, List.getElem?_eq_getElem h]
  exact numV_snoc _ _
theorem numV_mono (t : List UInt8) : ∀ (d i : Nat), numV (t.take i) ≤ numV (t.take (i + d))
  | 0, i => Nat.le_refl _
  | d + 1, i => by
    have h := numV_mono t d i
    rcases Nat.lt_or_ge (i + d) t.length with g | g
    · rw [show i + (d + 1) = i + d + 1 by omega, numV_take t _ g]
      omega
    · rw [List.take_of_length_le (l := t) (i := i + (d + 1)) (by omega)]
      rw [List.take_of_length_le (l := t) (i := i + d) (by omega)] at h
      exact h
/-- a token of digits, or why it is none -/
theorem tok_num {L : List UInt8} {j : Nat} {c : UInt8} {t : List UInt8} (hb : tkb L j = false) (ht : (tok L j).text = c :: t) (hc : isDg c = true) : (tok L j).kind = 3 ↔ ((tok L j).text.all isDg = true ∧ ¬ (c = 48 ∧ t ≠ [])) := by
  have hw : inWd c = true := by unfold inWd; rw [hc]; simp
  have hl : isLt c = false := by
    unfold isDg at hc
    unfold isLt
    simp [UInt8.le_iff_toNat_le] at hc ⊢
    omega
  rcases tok_not L j hb with ⟨h1, _, _⟩ | ⟨_, h2⟩ | ⟨_, c', t', h2, h3⟩
  · rw [h1, ht, wkd, if_neg (by rw [hl]; decide)]
    by_cases hz : c = 48 ∧ t ≠ []
    · rw [if_pos hz]
      constructor
      · intro h; omega
      · intro h; exact absurd hz h.2
    · rw [if_neg hz]
      by_cases ha : (c :: t).all isDg = true
      · rw [if_pos ha]; exact ⟨fun _ => ⟨ha, hz⟩, fun _ => rfl⟩
      · rw [if_neg ha]
        constructor
        · intro h; omega
        · intro h; exact absurd h.1 ha
  · rw [h2] at ht; cases ht
  · rw [h2] at ht
    injection ht with e1 _
    rw [← e1, h3] at hw; cases hw
theorem pNum_not {L : List UInt8} {j : Nat} (h : ¬ (tok L j).kind = 3) : pNum L j = .bad 5 (tok L j).at' := by
  unfold pNum pTake
  rw [if_neg h]
  rfl
theorem pNum_yes {L : List UInt8} {j : Nat} (h : (tok L j).kind = 3) : pNum L j = if 9223372036854775807 < numV (tok L j).text then .bad 3 (tok L j).at' else .ok (.node 0 [] 0 (numV (tok L j).text) []) (tok L j).nx := by
  unfold pNum pTake
  rw [if_pos h]
  rfl
/-- what number leaves -/
def NuR (R : Nat) (T : ByteArray) (j l : Nat) (w : World) (en : Ending) (w' : World) : Prop := Fr R w w' ∧
  ((en = .returned (.int .i64 (numV (tok (by' T) j).text : Nat)) ∧ RgG w' R T j l ∧ pNum (by' T) j = .ok (.node 0 [] 0 (numV (tok (by' T) j).text) []) (tok (by' T) j).nx) ∨
   (en = .returned (.int .i64 0) ∧ ∃ e, RgF w' R T e (tok (by' T) j).at' ∧ pNum (by' T) j = .bad e (tok (by' T) j).at'))

set_option maxRecDepth 100000 in
set_option maxHeartbeats 2000000 in
theorem rnum_any (R j l : Nat) (T : ByteArray) (w : World) (hg : RgG w R T j l) (c : UInt8) (t : List UInt8) (ht : (tok (by' T) j).text = c :: t) (hc : isDg c = true) : Calls Tryz.prog 112 #[.pointer (some ⟨R, 0, none⟩)] w (NuR R T j l w) := by
  have hnot : ∀ (x : Bool) (w : World), (Op.unary .not (.bool x)).run Tryz.prog w = .ok (.bool (!x)) w := fun _ _ => rfl
  have c1 := hg.h.c1
  have c2 := hg.h.c2
  have HDG := hid rdig_any
  have HTN := hid (tok_num hg.ok ht hc)
  have HP5 := hid (@pNum_not (by' T) j)
  have HPY := hid (@pNum_yes (by' T) j)
  have HG := hid hg
  have HFL := hid (fun er => rfail_any R T _ _ _ _ _ er ((tok (by' T) j).at' : Nat) w hg.h)
  have hsz : (bs (tok (by' T) j).text).size = (tok (by' T) j).text.length := bs_size _
  have HGT : Hid (∀ i (h : i < (bs (tok (by' T) j).text).size), (bs (tok (by' T) j).text)[i] = (tok (by' T) j).text.getD i 0) := fun i h => by
    rw [bs_get, List.getD_eq_getElem?_getD, List.getElem?_eq_getElem (by rw [bs_size] at h; exact h)]
    rfl
  have hsm : (tok (by' T) j).text.length ≤ 4000 := by
    have h1 := tok_at (by' T) j (by rw [by_len]; exact hg.le)
    rw [by_len] at h1
    have h2 : (tok (by' T) j).nx = (tok (by' T) j).at' + (tok (by' T) j).text.length := rfl
    have := hg.small
    omega
  have HEN : Hid (∀ W er, Fr R w W → er ≠ 0 → pNum (by' T) j = .bad er (tok (by' T) j).at' → RgR W R T ((tok (by' T) j).at' : Nat) (bs (tok (by' T) j).text) (l : Nat) (er : Nat) ((tok (by' T) j).at' : Nat) → NuR R T j l w (.returned (.int .i64 0)) W) := fun W er h1 h2 h3 h4 => ⟨h1, Or.inr ⟨rfl, er, ⟨h2, _, _, _, h4⟩, h3⟩⟩
  have HEY : Hid (pNum (by' T) j = .ok (.node 0 [] 0 (numV (tok (by' T) j).text) []) (tok (by' T) j).nx → NuR R T j l w (.returned (.int .i64 (numV (tok (by' T) j).text : Nat))) w) := fun h => ⟨Fr.refl _ _, Or.inl ⟨rfl, HG.out, h⟩⟩
  have HTX : Hid ((tok (by' T) j).text = c :: t) := ht
  clear hg ht HG
  generalize bs (tok (by' T) j).text = tx at *
  obtain ⟨tl, htl⟩ : ∃ tl, tl = (tok (by' T) j).text := ⟨_, rfl⟩
  rw [← htl] at HTN HPY hsz HGT hsm HEY HTX
  have HTL := hid htl
  clear htl
  have h0 : 0 < tx.size := by rw [hsz, HTX.out]; simp
  have h00 : (0 : Int) < (tx.size : Int) := by omega
  have hc0 : tx[0] = c := by rw [HGT.out 0 h0, HTX.out]; rfl
  have HSZ := hid hsz
  have HSM := hid hsm
  have hs4 : tx.size ≤ 4000 := by omega
  have q48 : ((c.toNat : Int) == 48) = decide (c = 48) := u8_eq c 48
  clear hsz hsm
  go_enter Tryz.func112, Tryz.ntmps112
  go_wp2_with fail
  go_loop [5] (fun v => ∃ k : Nat, k ≤ tx.size ∧ v = .int .i64 k ∧ Hid ((∀ i, i < k → isDg (tl.getD i 0) = true) ∧ (1 < k → ¬ c = 48))) (fun v => tx.size - (intOf v).toNat)
  case atStart => exact ⟨0, Nat.zero_le _, rfl, fun i hi => by omega, fun h => by omega⟩
  case round =>
    obtain ⟨k, hk, rfl, HA⟩ := hrel
    by_cases hlt : k < tx.size
    · have hlt2 : (k : Int) < (tx.size : Int) := by omega
      have hwr : IntKind.i64.wrap ((k : Int) + 1) = (k : Int) + 1 := by rw [IntKind.wrap_i64]; omega
      obtain ⟨d, hd⟩ : ∃ d, tx[k] = d := ⟨_, rfl⟩
      have HD : Hid (tl.getD k 0 = d) := by unfold Hid; rw [← HGT.out k hlt, hd]
      cases hdg : isDg d with
      | false =>
        have HNK : Hid (pNum (by' T) j = .bad 5 (tok (by' T) j).at') := HP5.out (fun h3 => by
          have h4 := (HTN.out.1 h3).1
          rw [all_no tl k (by rw [← HSZ.out]; exact hlt) (by rw [HD.out]; exact hdg)] at h4
          cases h4)
        go_wp2_with fail
        refine (HDG.out d w).mono ?_
        rintro e w1 ⟨rfl, rfl⟩
        rw [hdg]
        clear hdg
        go_wp2_with fail
        refine (HFL.out 5).mono ?_
        rintro e w2 ⟨rfl, hf, hr⟩
        have HE := hid (HEN.out w2 5 hf (by decide) HNK.out hr)
        clear hf hr
        go_wp2_with fail
        go_ret
        exact HE.out
      | true =>
        by_cases h48 : c = 48
        · rw [decide_eq_true h48] at q48
          by_cases hk0 : k = 0
          · have q0 : ¬ (0 : Int) < (k : Int) := by omega
            have HA2 : Hid ((∀ i, i < k + 1 → isDg (tl.getD i 0) = true) ∧ (1 < k + 1 → ¬ c = 48)) := ⟨fun i hi => by
              obtain rfl : i = k := by omega
              rw [HD.out]; exact hdg, fun h => by omega⟩
            clear hk0 h48
            go_wp2_with fail
            refine (HDG.out d w).mono ?_
            rintro e w1 ⟨rfl, rfl⟩
            rw [hdg]
            clear hdg HA
            go_wp2_with fail
            go_round
            case rel => exact ⟨k + 1, by omega, by go_num, HA2⟩
            case measure => simp [intOf]; omega
          · have q0 : (0 : Int) < (k : Int) := by omega
            have HNK : Hid (pNum (by' T) j = .bad 5 (tok (by' T) j).at') := HP5.out (fun h3 => by
              have h4 := (HTN.out.1 h3).2
              refine h4 ⟨h48, fun e => ?_⟩
              have h5 := HSZ.out
              rw [HTX.out, e] at h5
              simp at h5
              omega)
            clear hk0 h48
            go_wp2_with fail
            refine (HDG.out d w).mono ?_
            rintro e w1 ⟨rfl, rfl⟩
            rw [hdg]
            clear hdg
            go_wp2_with fail
            refine (HFL.out 5).mono ?_
            rintro e w2 ⟨rfl, hf, hr⟩
            have HE := hid (HEN.out w2 5 hf (by decide) HNK.out hr)
            clear hf hr
            go_wp2_with fail
            go_ret
            exact HE.out
        · rw [decide_eq_false h48] at q48
          have HA2 : Hid ((∀ i, i < k + 1 → isDg (tl.getD i 0) = true) ∧ (1 < k + 1 → ¬ c = 48)) := ⟨fun i hi => by
            rcases Nat.lt_or_ge i k with g | g
            · exact HA.out.1 i g
            · obtain rfl : i = k := by omega
              rw [HD.out]; exact hdg, fun _ => h48⟩
          clear h48
          go_wp2_with fail
          refine (HDG.out d w).mono ?_
          rintro e w1 ⟨rfl, rfl⟩
          rw [hdg]
          clear hdg HA
          go_wp2_with fail
          go_round
          case rel => exact ⟨k + 1, by omega, by go_num, HA2⟩
          case measure => simp [intOf]; omega
    · obtain rfl : k = tx.size := by omega
      have hlt2 : ¬ (tx.size : Int) < (tx.size : Int) := by omega
      have HK3 : Hid (pNum (by' T) j = if 9223372036854775807 < numV tl then .bad 3 (tok (by' T) j).at' else .ok (.node 0 [] 0 (numV tl) []) (tok (by' T) j).nx) := HPY.out (HTN.out.2 ⟨all_yes tl (fun i hi => HA.out.1 i (by rw [HSZ.out]; exact hi)), fun h => by
        refine HA.out.2 ?_ h.1
        have h5 := HSZ.out
        rw [HTX.out] at h5
        cases ht : t with
        | nil => exact absurd ht h.2
        | cons a b => rw [ht] at h5; simp at h5; omega⟩)
      have HDD : Hid (∀ i, i < tx.size → isDg (tl.getD i 0) = true) := HA.out.1
      clear HA hc0 q48
      go_wp2_with fail
      go_loop [7, 3] (fun v n => ∃ (m : Nat), m ≤ tx.size ∧ v = .int .i64 m ∧ n = .int .i64 (numV (tl.take m) : Nat) ∧ Hid (numV (tl.take m) ≤ 9223372036854775807)) (fun v _ => tx.size - (intOf v).toNat)
      case atStart => exact ⟨0, Nat.zero_le _, rfl, rfl, by unfold Hid; simp [numV]⟩
      case round =>
        obtain ⟨m, hm, rfl, rfl, HN⟩ := hrel
        by_cases hlm : m < tx.size
        · have hlm2 : (m : Int) < (tx.size : Int) := by omega
          have hwm : IntKind.i64.wrap ((m : Int) + 1) = (m : Int) + 1 := by rw [IntKind.wrap_i64]; omega
          obtain ⟨d, hd⟩ : ∃ d, tx[m] = d := ⟨_, rfl⟩
          have HD : Hid (tl.getD m 0 = d) := by unfold Hid; rw [← HGT.out m hlm, hd]
          have hdd := HDD.out m hlm
          rw [HD.out] at hdd
          obtain ⟨z, hz, hz9⟩ : ∃ z : Nat, d.toNat = z + 48 ∧ z ≤ 9 := by
            unfold isDg at hdd
            simp [UInt8.le_iff_toNat_le] at hdd
            exact ⟨d.toNat - 48, by omega, by omega⟩
          have HNX : Hid (numV (tl.take (m + 1)) = numV (tl.take m) * 10 + z) := by
            unfold Hid
            rw [numV_take tl m (by rw [← HSZ.out]; exact hlm), HD.out, hz]
            omega
          have e0 : (d.toNat : Int) = (z : Int) + 48 := by omega
          have HE0 := hid e0
          clear hz hdd
          have HMO := hid (numV_mono tl (tx.size - (m + 1)) (m + 1))
          rw [show m + 1 + (tx.size - (m + 1)) = tx.size by omega, HSZ.out, List.take_length] at HMO
          generalize numV (tl.take m) = N at *
          by_cases hov : (9223372036854775807 - (z : Int)) / 10 < (N : Int)
          · have HNK : Hid (pNum (by' T) j = .bad 3 (tok (by' T) j).at') := by
              unfold Hid
              rw [HK3.out, if_pos]
              have h1 := HMO.out
              rw [HNX.out] at h1
              omega
            go_wp2_with fail
            refine (HFL.out 3).mono ?_
            rintro e w2 ⟨rfl, hf, hr⟩
            have HE := hid (HEN.out w2 3 hf (by decide) HNK.out hr)
            clear hf hr hov
            go_wp2_with fail
            go_ret
            exact HE.out
          · have hov2 : (N : Int) ≤ (9223372036854775807 - (z : Int)) / 10 := by omega
            have HN2 : Hid (N * 10 + z ≤ 9223372036854775807) := by unfold Hid; omega
            clear hov
            go_wp2_with fail
            go_round
            case rel => exact ⟨m + 1, by omega, by go_num, by rw [HNX.out]; go_num, by unfold Hid; rw [HNX.out]; exact HN2.out⟩
            case measure => simp [intOf]; omega
        · obtain rfl : m = tx.size := by omega
          have hlm2 : ¬ (tx.size : Int) < (tx.size : Int) := by omega
          have hnv : numV (tl.take tx.size) = numV tl := by rw [HSZ.out, List.take_length]
          rw [hnv] at HN ⊢
          have HE := hid (HEY.out (by rw [HK3.out, if_neg]; have := HN.out; omega))
          clear hnv
          go_wp2_with fail
          go_ret
          exact HE.out

end Go.Proofs.YtmmgkdcojkmlcaaGreatDoor

namespace Go.Proofs.YtmmgkdcojkmlcaaGreatDoor

/-- what the reference calls a part -/
def opS : Nat → List UInt8
  | 0 => [110, 117, 109, 98, 101, 114]
  | 1 => [110, 97, 109, 101]
  | 2 => [99, 97, 108, 108]
  | 3 => [110, 101, 103]
  | 4 => [43]
  | 5 => [45]
  | 6 => [42]
  | 7 => [47]
  | 8 => [61, 61]
  | 9 => [108, 101, 116]
  | 10 => [110, 101, 101, 100]
  | 11 => [105, 102]
  | _ => []
/-- how tightly a kind holds -/
def hld (k : Nat) : Nat := if k < 4 then 4 else if k < 6 then 2 else if k < 8 then 3 else if k = 8 then 1 else 0
/-- in brackets, where it does not hold tightly enough -/
def par (h least : Nat) (s : List UInt8) : List UInt8 := if h < least then [40] ++ s ++ [41] else s
def knd : Tr → Nat
  | .node k _ _ _ _ => k
/-- a part's text, where it has to hold so tightly -/
def kt (ks : List (Nat × List UInt8)) (i least : Nat) : List UInt8 := match ks[i]? with
  | some x => par x.1 least x.2
  | none => []
/-- with commas -/
def jnC (ks : List (Nat × List UInt8)) : Nat → List UInt8
  | 0 => []
  | j + 1 => jnC ks j ++ (if 0 < j then [44, 32] else []) ++ kt ks j 0
/-- an expression of its parts' texts; it: how a number is written -/
def inK (it : Nat → List UInt8) (k : Nat) (nm : List UInt8) (n : Nat) (ks : List (Nat × List UInt8)) : List UInt8 :=
  if k = 0 then it n else if k = 1 then nm else if k = 2 then nm ++ [40] ++ jnC ks ks.length ++ [41]
  else if k = 3 then [45] ++ kt ks 0 4
  else if k = 9 then [108, 101, 116, 32] ++ nm ++ [32, 61, 32] ++ kt ks 0 0 ++ [59, 32] ++ kt ks 1 0
  else if k = 10 then [110, 101, 101, 100, 32] ++ kt ks 0 2 ++ [32, 61, 61, 32] ++ kt ks 1 2 ++ [59, 32] ++ kt ks 2 0
  else if k = 11 then [105, 102, 32] ++ kt ks 0 0 ++ [32, 116, 104, 101, 110, 32] ++ kt ks 1 0 ++ [32, 101, 108, 115, 101, 32] ++ kt ks 2 0
  else if k = 8 then kt ks 0 2 ++ [32, 61, 61, 32] ++ kt ks 1 2
  else kt ks 0 (hld k) ++ [32] ++ opS k ++ [32] ++ kt ks 1 (hld k + 1)
mutual
/-- an expression as text -/
def inT (it : Nat → List UInt8) : Tr → List UInt8
  | .node k nm _ n kids => inK it k nm n (inTs it kids)
def inTs (it : Nat → List UInt8) : List Tr → List (Nat × List UInt8)
  | [] => []
  | t :: r => (hld (knd t), inT it t) :: inTs it r
end
theorem inTs_len (it : Nat → List UInt8) : ∀ (ts : List Tr), (inTs it ts).length = ts.length
  | [] => by simp [inTs]
  | t :: r => by rw [inTs]; simp [inTs_len it r]
end Go.Proofs.YtmmgkdcojkmlcaaGreatDoor

namespace Go.Proofs.YtmmgkdcojkmlcaaGreatDoor
open Go.RowKit

mutual
/-- an expression of the reference in memory: B holds of each of its blocks -/
def XTB (B : Nat → Prop) (w : World) : Tr → Value → Prop
  | .node k nm at' n kids, v => ∃ b a c A, v = .pointer (some ⟨b, 0, none⟩) ∧ B b ∧ w.heap[b]? = some (.cells #[.string (bs (opS k)), .string (bs nm), .int .i64 (n : Int), .int .i64 A, .slice a kids.length c] 126 (0, 0)) ∧ ((k = 1 ∨ k = 2 ∨ k = 9) → A = (at' : Int)) ∧ XTBs B w a kids 0
def XTBs (B : Nat → Prop) (w : World) (a : Option Addr) : List Tr → Nat → Prop
  | [], _ => True
  | t :: r, i => (∃ g v, a = some ⟨g, 0, none⟩ ∧ B g ∧ w.cell? ⟨g, i, none⟩ = some v ∧ XTB B w t v) ∧ XTBs B w a r (i + 1)
end
mutual
theorem XTB.keep {B B' : Nat → Prop} {w w' : World} (hk : ∀ b, B b → b < w.heap.size → B' b ∧ w'.heap[b]? = w.heap[b]?) : ∀ (t : Tr) (v : Value), XTB B w t v → XTB B' w' t v
  | .node k nm at' n kids, v, h => by
    obtain ⟨b, a, c, A, h1, h2, h3, h4, h5⟩ := h
    obtain ⟨k1, k2⟩ := hk b h2 (Array.getElem?_eq_some_iff.1 h3).1
    exact ⟨b, a, c, A, h1, k1, k2.trans h3, h4, XTBs.keep hk a kids 0 h5⟩
theorem XTBs.keep {B B' : Nat → Prop} {w w' : World} (hk : ∀ b, B b → b < w.heap.size → B' b ∧ w'.heap[b]? = w.heap[b]?) (a : Option Addr) : ∀ (ts : List Tr) (i : Nat), XTBs B w a ts i → XTBs B' w' a ts i
  | [], _, _ => trivial
  | t :: r, i, h => by
    obtain ⟨⟨g, v, h1, h2, h3, h4⟩, h5⟩ := h
    have hl := World.block_lt_of_cell? _ _ h3
    obtain ⟨k1, k2⟩ := hk g h2 hl
    refine ⟨⟨g, v, h1, k1, ?_, XTB.keep hk t v h4⟩, XTBs.keep hk a r (i + 1) h5⟩
    unfold World.cell? at h3 ⊢
    rw [k2]
    exact h3
end
/-- .. its blocks lie from lo on -/
def XT (lo : Nat) (w : World) (t : Tr) (v : Value) : Prop := XTB (fun b => lo ≤ b) w t v
def XTs (lo : Nat) (w : World) (a : Option Addr) (ts : List Tr) (i : Nat) : Prop := XTBs (fun b => lo ≤ b) w a ts i
theorem XT.keep {lo : Nat} {w w' : World} (hk : ∀ b, lo ≤ b → b < w.heap.size → w'.heap[b]? = w.heap[b]?) (t : Tr) (v : Value) (h : XT lo w t v) : XT lo w' t v := XTB.keep (fun b h1 h2 => ⟨h1, hk b h1 h2⟩) t v h
theorem XT.fr {R lo : Nat} {w w' : World} {t : Tr} {v : Value} (h : XT lo w t v) (f : Fr R w w') (hlo : R < lo) : XT lo w' t v := XT.keep (fun _ h1 h2 => f.keep (by omega) h2) t v h
theorem XT.below {lo : Nat} {w w' : World} {t : Tr} {v : Value} (h : XT lo w t v) (f : Below w.heap.size w w') : XT lo w' t v := XT.keep (fun b _ h2 => f.block b h2) t v h
theorem XT.mono {lo lo' : Nat} {w : World} {t : Tr} {v : Value} (h : XT lo w t v) (hl : lo' ≤ lo) : XT lo' w t v := XTB.keep (fun _ h1 _ => ⟨Nat.le_trans hl h1, rfl⟩) t v h
theorem XTBs_of {B : Nat → Prop} {w : World} {g : Nat} (hg : B g) : ∀ (ts : List Tr) (i : Nat), (∀ j, j < ts.length → ∃ v, w.cell? ⟨g, i + j, none⟩ = some v ∧ ∀ t, ts[j]? = some t → XTB B w t v) → XTBs B w (some ⟨g, 0, none⟩) ts i
  | [], _, _ => trivial
  | t :: r, i, h => by
    obtain ⟨v, h1, h2⟩ := h 0 (by simp)
    refine ⟨⟨g, v, rfl, hg, h1, h2 t rfl⟩, XTBs_of hg r (i + 1) fun j hj => ?_⟩
    obtain ⟨v, h1, h2⟩ := h (j + 1) (by simpa using hj)
    exact ⟨v, by rw [show i + 1 + j = i + (j + 1) by omega]; exact h1, fun t ht => h2 t ht⟩

/-- two results, one behind the other -/
def Res.cr {α β : Type} (r : Res α) (p : Nat → Res β) : Res (α × β) := r.bind fun x j => (p j).bind fun t a => .ok (x, t) a
/-- a sign behind a result -/
def Res.wn {α : Type} (L : List UInt8) (k : Nat) (r : Res α) : Res α := r.bind fun x j => (pTake L k j).bind fun _ a => .ok x a
theorem Res.cr_ok {α β : Type} {r : Res α} {p : Nat → Res β} {x : α} {t : β} {j : Nat} (h : r.cr p = .ok (x, t) j) : ∃ a, r = .ok x a ∧ p a = .ok t j := by
  cases r with
  | out => cases h
  | bad e a => cases h
  | ok y a =>
    cases hp : p a with
    | out => simp [Res.cr, Res.bind, hp] at h
    | bad e b => simp [Res.cr, Res.bind, hp] at h
    | ok s b =>
      simp [Res.cr, Res.bind, hp] at h
      obtain ⟨⟨rfl, rfl⟩, rfl⟩ := h
      exact ⟨a, rfl, hp⟩
theorem Res.wn_ok {α : Type} {L : List UInt8} {k : Nat} {r : Res α} {x : α} {j : Nat} (h : r.wn L k = .ok x j) : ∃ a, r = .ok x a := by
  cases r with
  | out => cases h
  | bad e a => cases h
  | ok y a =>
    cases hp : pTake L k a with
    | out => simp [Res.wn, Res.bind, hp] at h
    | bad e b => simp [Res.wn, Res.bind, hp] at h
    | ok s b =>
      simp [Res.wn, Res.bind, hp] at h
      exact ⟨a, by rw [h.1]⟩
theorem Res.cr_of {α β : Type} {r : Res α} {p : Nat → Res β} {x : α} {t : β} {j : Nat} (h : r.cr p = .ok (x, t) j) : (r.bind fun _ j => p j) = .ok t j := by
  obtain ⟨a, h1, h2⟩ := Res.cr_ok h
  rw [h1]
  exact h2
theorem Res.cr_out {α β : Type} {r : Res α} {p : Nat → Res β} (h : r.cr p ≠ .out) : (r.bind fun _ j => p j) ≠ .out := by
  intro e
  apply h
  cases r with
  | out => rfl
  | bad e' a => cases e
  | ok y a =>
    have e : p a = .out := e
    simp [Res.cr, Res.bind, e]
theorem Res.out_cr {α β : Type} {r : Res α} {p : Nat → Res β} (h : r.cr p ≠ .out) : r ≠ .out := fun e => h (by rw [e]; rfl)
theorem Res.out_wn {α : Type} {L : List UInt8} {k : Nat} {r : Res α} (h : r.wn L k ≠ .out) : r ≠ .out := fun e => h (by rw [e]; rfl)
theorem Res.out_bind {α β : Type} {r : Res α} {f : α → Nat → Res β} (h : r.bind f ≠ .out) : r ≠ .out := fun e => h (by rw [e]; rfl)
section
variable {w w' : World} {R : Nat} {T : ByteArray} {l : Nat} {α β : Type}
theorem RgW.cr {r : Res α} {p : Nat → Res β} (h : RgW w R T (r.bind fun _ j => p j) l) : RgW w R T (r.cr p) l := by
  refine h.of ?_
  cases r with
  | out => rfl
  | bad e a => rfl
  | ok y a => cases hp : p a <;> simp [Res.cr, Res.bind, hp]
theorem RgW.map {r : Res α} (h : RgW w R T r l) (f : α → β) : RgW w R T (r.bind fun x j => .ok (f x) j) l := by
  refine h.of ?_
  cases r <;> rfl
theorem RgW.at {r : Res α} (h : RgW w R T r l) : ∃ A : Int, w.cell? ⟨R, 1, none⟩ = some (.int .i64 A) ∧ ∀ x a, r = .ok x a → (tok (by' T) a).kind ≠ 0 → A = ((tok (by' T) a).at' : Int) := by
  rcases h.cases with ⟨x, j, rfl, hg⟩ | ⟨e, a, ⟨_, A, _, _, hR⟩, hr⟩
  · exact ⟨_, hg.h.c1, fun x' a' e _ => by injection e with _ e; rw [e]⟩
  · refine ⟨A, hR.c1, fun x a' e hk => ?_⟩
    rcases hr with h1 | ⟨x', j', h1, h2, _⟩
    · rw [h1] at e; cases e
    · rw [h1] at e; injection e with _ e; subst e; exact absurd h2 hk
/-- one level back -/
theorem RgW.back {r : Res α} (h : RgW w R T r (l + 1)) : ∃ d : Int, w.cell? ⟨R, 3, none⟩ = some (.int .i64 d) ∧ w.frozen? ⟨R, 3, none⟩ = false ∧ RgW (w.setCell ⟨R, 3, none⟩ (.int .i64 (IntKind.i64.wrap (d - 1)))) R T r l := by
  cases r with
  | out => exact h.elim
  | bad e a =>
    obtain ⟨he, x, y, z, hR⟩ := h
    exact ⟨z, hR.c3, hR.fz 3, he, _, _, _, hR.s3 _⟩
  | ok x j =>
    rcases h with h | ⟨h1, he, x, y, z, hR⟩
    · refine ⟨_, h.h.c3, h.h.fz 3, Or.inl ⟨?_, h.ok, h.le, h.small, by have := h.lev; omega⟩⟩
      have e : IntKind.i64.wrap (((l + 1 : Nat) : Int) - 1) = (l : Nat) := by rw [IntKind.wrap_i64]; have := h.lev; omega
      rw [e]
      exact h.h.s3 _
    · exact ⟨z, hR.c3, hR.fz 3, Or.inr ⟨h1, he, _, _, _, hR.s3 _⟩⟩
/-- is there a fault? -/
theorem RgW.err {r : Res α} (h : RgW w R T r l) : ∃ E : Int, w.cell? ⟨R, 4, none⟩ = some (.int .i64 E) ∧ ((E = 0 ∧ ∃ x j, r = .ok x j ∧ RgG w R T j l) ∨ (E ≠ 0 ∧ ∃ e a, RgF w R T e a ∧ (r = .bad e a ∨ ∃ x j, r = .ok x j ∧ (tok (by' T) j).kind = 0 ∧ e = 5 ∧ a = (tok (by' T) j).at'))) := by
  rcases h.cases with ⟨x, j, rfl, hg⟩ | ⟨e, a, hf, hr⟩
  · exact ⟨0, hg.h.c4, Or.inl ⟨rfl, x, j, rfl, hg⟩⟩
  · obtain ⟨he, A, tk, dp, hR⟩ := hf
    exact ⟨e, hR.c4, Or.inr ⟨by omega, e, a, ⟨he, A, tk, dp, hR⟩, hr⟩⟩
end
theorem pName_at {L : List UInt8} {a j : Nat} {x : List UInt8 × Nat} (h : pName L a = .ok x j) : (tok L a).kind ≠ 0 ∧ x.2 = (tok L a).at' := by
  unfold pName pTake at h
  by_cases hk : (tok L a).kind = 2
  · rw [if_pos hk] at h
    refine ⟨by omega, ?_⟩
    simp only [Res.bind] at h
    split at h
    · cases h
    · injection h with h _
      rw [← h]
  · rw [if_neg hk] at h
    cases h
/-- how an expression's reading ends -/
def XR (R : Nat) (T : ByteArray) (r : Res Tr) (l : Nat) (w : World) (en : Ending) (w' : World) : Prop := ∃ p : Option Addr, en = .returned (.pointer p) ∧ Fr R w w' ∧ RgW w' R T r l ∧ ∀ t j, r = .ok t j → XT w.heap.size w' t (.pointer p)
/-- what expr, sum, product and part do -/
def EXP (R : Nat) (T : ByteArray) (f : Nat) : Prop := ∀ (α : Type) (r : Res α) (l : Nat) (w : World), RgW w R T r l → (r.bind fun _ j => pExpr (by' T) f j l) ≠ .out → Calls Tryz.prog 41 #[.pointer (some ⟨R, 0, none⟩)] w (XR R T (r.bind fun _ j => pExpr (by' T) f j l) l w)
def SUM (R : Nat) (T : ByteArray) (f : Nat) : Prop := ∀ (α : Type) (r : Res α) (l : Nat) (w : World), RgW w R T r l → (r.bind fun _ j => pSum (by' T) f j l) ≠ .out → Calls Tryz.prog 66 #[.pointer (some ⟨R, 0, none⟩)] w (XR R T (r.bind fun _ j => pSum (by' T) f j l) l w)
def PRD (R : Nat) (T : ByteArray) (f : Nat) : Prop := ∀ (α : Type) (r : Res α) (l : Nat) (w : World), RgW w R T r l → (r.bind fun _ j => pProd (by' T) f j l) ≠ .out → Calls Tryz.prog 87 #[.pointer (some ⟨R, 0, none⟩)] w (XR R T (r.bind fun _ j => pProd (by' T) f j l) l w)
def PRT (R : Nat) (T : ByteArray) (f : Nat) : Prop := ∀ (α : Type) (r : Res α) (l : Nat) (w : World), RgW w R T r l → (r.bind fun _ j => pPart (by' T) f j l) ≠ .out → Calls Tryz.prog 107 #[.pointer (some ⟨R, 0, none⟩)] w (XR R T (r.bind fun _ j => pPart (by' T) f j l) l w)
/-- where a sign stands that is none, nothing is read -/
theorem pPart_zero {L : List UInt8} {f a l : Nat} (h : (tok L a).kind = 0) : pPart L f a l = .out ∨ pPart L f a l = .bad 5 (tok L a).at' := by
  cases f with
  | zero => exact Or.inl (by rw [pPart])
  | succ f =>
    rw [pPart, if_neg (by omega), if_neg (by omega), if_neg (by omega)]
    exact Or.inr (pNum_not (by omega))
theorem pProd_zero {L : List UInt8} {f a l : Nat} (h : (tok L a).kind = 0) : pProd L f a l = .out ∨ pProd L f a l = .bad 5 (tok L a).at' := by
  cases f with
  | zero => exact Or.inl (by rw [pProd])
  | succ f =>
    rw [pProd]
    rcases pPart_zero (f := f) (l := l) h with e | e <;> rw [e]
    · exact Or.inl rfl
    · exact Or.inr rfl
theorem pSum_zero {L : List UInt8} {f a l : Nat} (h : (tok L a).kind = 0) : pSum L f a l = .out ∨ pSum L f a l = .bad 5 (tok L a).at' := by
  cases f with
  | zero => exact Or.inl (by rw [pSum])
  | succ f =>
    rw [pSum]
    rcases pProd_zero (f := f) (l := l) h with e | e <;> rw [e]
    · exact Or.inl rfl
    · exact Or.inr rfl
theorem pExpr_zero {L : List UInt8} {f a l : Nat} (h : (tok L a).kind = 0) : pExpr L f a l = .out ∨ pExpr L f a l = .bad 5 (tok L a).at' := by
  cases f with
  | zero => exact Or.inl (by rw [pExpr])
  | succ f =>
    rw [pExpr, if_neg (by omega), if_neg (by omega), if_neg (by omega)]
    rcases pSum_zero (f := f) (l := l) h with e | e <;> rw [e]
    · exact Or.inl rfl
    · exact Or.inr rfl

end Go.Proofs.YtmmgkdcojkmlcaaGreatDoor

namespace Go.Proofs.YtmmgkdcojkmlcaaGreatDoor
open Go.RowKit

/-- a part that is being made, while the text is read on -/
structure LS {α : Type} (R : Nat) (T : ByteArray) (w : World) (X : Nat) (W : World) (q : Res α) (lev : Nat) (op nm : ByteArray) (A : Int) (kv : Value) : Prop where
  fr : Fr R w W
  rm : RgW W R T q lev
  xb : W.heap[X]? = some (.cells #[.string op, .string nm, .int .i64 0, .int .i64 A, kv] 126 (0, 0))
  hX : w.heap.size ≤ X
  hR : R < w.heap.size
section
variable {α β : Type} {R X lev lev' : Nat} {T op nm : ByteArray} {w W W' : World} {q : Res α} {q' : Res β} {A : Int} {kv : Value}
theorem LS.lt (h : LS R T w X W q lev op nm A kv) : X < W.heap.size := (Array.getElem?_eq_some_iff.1 h.xb).1
theorem LS.step (h : LS R T w X W q lev op nm A kv) (f : Fr R W W') (m : RgW W' R T q' lev') : LS R T w X W' q' lev' op nm A kv :=
  ⟨h.fr.trans f, m, (f.2 X h.lt (by have := h.hX; have := h.hR; omega)).trans h.xb, h.hX, h.hR⟩
theorem LS.alloc (h : LS R T w X W q lev op nm A kv) (o : Obj) : LS R T w X (W.alloc o) q lev op nm A kv :=
  h.step (Fr.below ((Below.refl _ _).alloc (Nat.le_refl _) _) (Nat.le_of_lt h.rm.lt)) (h.rm.keep (heap_alloc_old _ _ h.rm.lt))
theorem LS.put3 (h : LS R T w X W q lev op nm A kv) (z : Int) : LS R T w X (W.setCell ⟨X, 3, none⟩ (.int .i64 z)) q lev op nm z kv :=
  ⟨h.fr.setNew h.hX h.hR 3 _, h.rm.keep (heap_setCell_other _ _ _ _ (by show R ≠ X; have := h.hX; have := h.hR; omega)), heap_setCell_same _ X 3 _ _ _ h.xb, h.hX, h.hR⟩
theorem LS.put1 (h : LS R T w X W q lev op nm A kv) (z : ByteArray) : LS R T w X (W.setCell ⟨X, 1, none⟩ (.string z)) q lev op z A kv :=
  ⟨h.fr.setNew h.hX h.hR 1 _, h.rm.keep (heap_setCell_other _ _ _ _ (by show R ≠ X; have := h.hX; have := h.hR; omega)), heap_setCell_same _ X 1 _ _ _ h.xb, h.hX, h.hR⟩
theorem LS.put0 (h : LS R T w X W q lev op nm A kv) (z : ByteArray) : LS R T w X (W.setCell ⟨X, 0, none⟩ (.string z)) q lev z nm A kv :=
  ⟨h.fr.setNew h.hX h.hR 0 _, h.rm.keep (heap_setCell_other _ _ _ _ (by show R ≠ X; have := h.hX; have := h.hR; omega)), heap_setCell_same _ X 0 _ _ _ h.xb, h.hX, h.hR⟩
theorem LS.put4 (h : LS R T w X W q lev op nm A kv) (v : Value) : LS R T w X (W.setCell ⟨X, 4, none⟩ v) q lev op nm A v :=
  ⟨h.fr.setNew h.hX h.hR 4 _, h.rm.keep (heap_setCell_other _ _ _ _ (by show R ≠ X; have := h.hX; have := h.hR; omega)), heap_setCell_same _ X 4 _ _ _ h.xb, h.hX, h.hR⟩
theorem LS.c0 (h : LS R T w X W q lev op nm A kv) : W.cell? ⟨X, 0, none⟩ = some (.string op) := by simp [World.cell?, h.xb]
theorem LS.c1 (h : LS R T w X W q lev op nm A kv) : W.cell? ⟨X, 1, none⟩ = some (.string nm) := by simp [World.cell?, h.xb]
theorem LS.c3 (h : LS R T w X W q lev op nm A kv) : W.cell? ⟨X, 3, none⟩ = some (.int .i64 A) := by simp [World.cell?, h.xb]
theorem LS.c4 (h : LS R T w X W q lev op nm A kv) : W.cell? ⟨X, 4, none⟩ = some kv := by simp [World.cell?, h.xb]
theorem LS.fz (h : LS R T w X W q lev op nm A kv) (i : Nat) : W.frozen? ⟨X, i, none⟩ = false := frozen_of_row W X i _ _ h.xb
/-- one level back, at the end -/
theorem LS.back (h : LS R T w X W q (lev + 1) op nm A kv) : ∃ d dd : Int, W.cell? ⟨R, 3, none⟩ = some (.int .i64 d) ∧ IntKind.i64.wrap (d - 1) = dd ∧ W.frozen? ⟨R, 3, none⟩ = false ∧ LS R T w X (W.setCell ⟨R, 3, none⟩ (.int .i64 dd)) q lev op nm A kv := by
  obtain ⟨d, h1, h2, h3⟩ := h.rm.back
  exact ⟨d, _, h1, rfl, h2, h.fr.set 3 _, h3, (heap_setCell_other _ _ _ _ (by show X ≠ R; have := h.hX; have := h.hR; omega)).trans h.xb, h.hX, h.hR⟩
/-- an expression that stays -/
theorem XT.put {lo : Nat} {t : Tr} {v : Value} (h : XT lo W t v) (hX : X < lo) (i : Nat) (x : Value) : XT lo (W.setCell ⟨X, i, none⟩ x) t v :=
  XT.keep (fun b h1 _ => heap_setCell_other _ _ _ _ (by show b ≠ X; omega)) t v h
end
theorem Res.bind_ok {α β : Type} {r : Res α} {f : α → Nat → Res β} {y : β} {j : Nat} (h : r.bind f = .ok y j) : ∃ x a, r = .ok x a ∧ f x a = .ok y j := by
  cases r with
  | out => cases h
  | bad e a => cases h
  | ok x a => exact ⟨x, a, rfl, h⟩

set_option maxRecDepth 100000 in
set_option maxHeartbeats 2000000 in
theorem rexpr_let (R : Nat) (T : ByteArray) (f j l : Nat) (w : World) (hE : EXP R T f) (hg : RgG w R T j l) (hk : (tok (by' T) j).kind = 5) (q : Res Tr) (hq : q = pExpr (by' T) (f + 1) j l) (hro : q ≠ .out) :
    Calls Tryz.prog 41 #[.pointer (some ⟨R, 0, none⟩)] w (XR R T q l w) := by
  have hmx : Tryz.prog.follows .mixedOrders = true := by kernel_rfl
  have htx := (tok_spl (by' T) j 5 (by decide) (by decide)).1 hk
  have hlt := hg.h.lt
  have c1 := hg.h.c1
  have c2 := hg.h.c2
  have c4 := hg.h.c4
  have ht1 : ((bs (tok (by' T) j).text).toList == [108, 101, 116]) = true := by rw [bs_list, htx]; rfl
  have HTX : Hid (bs (tok (by' T) j).text = bs (opS 9)) := by unfold Hid; rw [htx]; rfl
  obtain ⟨q1, hq1⟩ : ∃ q1, q1 = pEnter (by' T) 5 j l := ⟨_, rfl⟩
  obtain ⟨q2, hq2⟩ : ∃ q2, q2 = q1.cr (pName (by' T)) := ⟨_, rfl⟩
  obtain ⟨q3, hq3⟩ : ∃ q3, q3 = q2.wn (by' T) 14 := ⟨_, rfl⟩
  obtain ⟨q4, hq4⟩ : ∃ q4, q4 = q3.cr (fun a => pExpr (by' T) f a (l + 1)) := ⟨_, rfl⟩
  obtain ⟨q5, hq5⟩ : ∃ q5, q5 = q4.wn (by' T) 13 := ⟨_, rfl⟩
  obtain ⟨q6, hq6⟩ : ∃ q6, q6 = q5.cr (fun a => pExpr (by' T) f a (l + 1)) := ⟨_, rfl⟩
  have hqq : q = q6.bind fun z a => .ok (.node 9 z.1.1.2.1 z.1.1.2.2 0 [z.1.2, z.2]) a := by
    rw [hq, pExpr, if_pos hk, hq6, hq5, hq4, hq3, hq2, hq1]
    cases pEnter (by' T) 5 j l with
    | out => rfl
    | bad e a => rfl
    | ok _ a1 =>
      simp only [Res.cr, Res.wn, Res.bind]
      cases pName (by' T) a1 with
      | out => rfl
      | bad e a => rfl
      | ok nm a2 =>
        dsimp only
        cases pTake (by' T) 14 a2 with
        | out => rfl
        | bad e a => rfl
        | ok _ a3 =>
          dsimp only
          cases pExpr (by' T) f a3 (l + 1) with
          | out => rfl
          | bad e a => rfl
          | ok x a4 =>
            dsimp only
            cases pTake (by' T) 13 a4 with
            | out => rfl
            | bad e a => rfl
            | ok _ a5 =>
              dsimp only
              cases pExpr (by' T) f a5 (l + 1) with
              | out => rfl
              | bad e a => rfl
              | ok y a6 => rfl
  have n6 : q6 ≠ .out := Res.out_bind (by rw [← hqq]; exact hro)
  have n5 : q5 ≠ .out := Res.out_cr (by rw [← hq6]; exact n6)
  have n4 : q4 ≠ .out := Res.out_wn (by rw [← hq5]; exact n5)
  have HNM := hid (fun (W : World) (h : RgW W R T q1 (l + 1)) => rname_any R (l + 1) T q1 W h)
  have HW14 := hid (fun (W : World) (h : RgW W R T q2 (l + 1)) => rwant_any R (l + 1) 14 T ⟨#[61]⟩ q2 W h (by decide) (by decide) rfl)
  have HE4 := hid (fun (W : World) (h : RgW W R T q3 (l + 1)) => hE _ q3 (l + 1) W h (Res.cr_out (by rw [← hq4]; exact n4)))
  have HW13 := hid (fun (W : World) (h : RgW W R T q4 (l + 1)) => rwant_any R (l + 1) 13 T ⟨#[59]⟩ q4 W h (by decide) (by decide) rfl)
  have HE6 := hid (fun (W : World) (h : RgW W R T q5 (l + 1)) => hE _ q5 (l + 1) W h (Res.cr_out (by rw [← hq6]; exact n6)))
  have HQ2 := hid hq2
  have HQ3 := hid hq3
  have HQ4 := hid hq4
  have HQ5 := hid hq5
  have HQ6 := hid hq6
  have HQQ := hid hqq
  obtain ⟨W0, hW0⟩ : ∃ W0, W0 = (w.alloc (.cells #[.string (bs (tok (by' T) j).text), .string ⟨#[]⟩, .int .i64 0, .int .i64 ((tok (by' T) j).at' : Int), .slice none 0 0] 126)).drew := ⟨_, rfl⟩
  have hb0 : Below w.heap.size w W0 := by rw [hW0]; exact ((Below.refl w.heap.size w).alloc (Nat.le_refl _) _).drew
  have hg0 : RgG W0 R T j l := hg.keep (hb0.block _ hlt)
  have HX0 : Hid (LS R T w w.heap.size W0 (.ok () j : Res Unit) l (bs (tok (by' T) j).text) ⟨#[]⟩ ((tok (by' T) j).at' : Int) (.slice none 0 0)) := ⟨Fr.below hb0 (Nat.le_of_lt hlt), Or.inl hg0, by rw [hW0]; exact heap_alloc_new w _, Nat.le_refl _, hlt⟩
  have HDP := hid (rdeep_any R j l 5 T W0 hg0 hk)
  rw [← hq1] at HDP
  have e4 := hg0.h.c4
  have e2 := hg0.h.c2
  obtain ⟨X, hX⟩ : ∃ X, X = w.heap.size := ⟨_, rfl⟩
  rw [← hX] at HX0
  have HXX := hid hX
  generalize bs (tok (by' T) j).text = tx at *
  generalize (tok (by' T) j).at' = at' at *
  clear hE hg hk hq hro htx hq1 hq2 hq3 hq4 hq5 hq6 hqq n6 n5 n4 hb0 hg0
  go_enter Tryz.func41, Tryz.ntmps41
  go_wp2_with fail
  go_still_tail 9, hmx
  go_wp2_with fail
  rw [← hW0, ← hX]
  clear hW0 hX
  refine HDP.out.mono ?_
  rintro e w1 ⟨b, rfl, hf1, hm1⟩
  have HX1 := hid (HX0.out.step hf1 hm1)
  obtain ⟨A, r1, hA⟩ := hm1.at
  have HA := hid hA
  have x3 := HX1.out.c3
  have y3 := HX1.out.fz 3
  clear hf1 hm1 hA e2 e4 c1 c2 c4
  go_wp2_with fail
  have HX2 := hid (HX1.out.put3 A)
  generalize w1.setCell ⟨X, 3, none⟩ (.int .i64 A) = w2 at *
  refine (HNM.out w2 HX2.out.rm).mono ?_
  rintro e w3 ⟨v, rfl, hf3, hm3, hv3⟩
  have HX3 := hid (HX2.out.step hf3 hm3.cr)
  rw [← HQ2.out] at HX3
  have HV3 := hid hv3
  have x1 := HX3.out.c1
  have y1 := HX3.out.fz 1
  clear hf3 hm3 hv3 x3 y3 r1
  go_wp2_with fail
  have HX4 := hid (HX3.out.put1 v)
  generalize w3.setCell ⟨X, 1, none⟩ (.string v) = w4 at *
  refine (HW14.out w4 HX4.out.rm).mono ?_
  rintro e w5 ⟨rfl, hf5, hm5⟩
  have HX5 : Hid (LS R T w X w5 q3 (l + 1) tx v A (.slice none 0 0)) := by unfold Hid; rw [HQ3.out]; exact HX4.out.step hf5 hm5
  clear hf5 hm5 x1 y1
  go_wp2_with fail
  refine (HE4.out w5 HX5.out.rm).mono ?_
  rintro e w6 ⟨va, rfl, hf6, hm6, ht6⟩
  have HX6 : Hid (LS R T w X w6 q4 (l + 1) tx v A (.slice none 0 0)) := by unfold Hid; rw [HQ4.out]; exact HX5.out.step hf6 hm6.cr
  have HT6 := hid ht6
  have HL5 := hid HX5.out.lt
  clear hf6 hm6 ht6
  go_wp2_with fail
  refine (HW13.out w6 HX6.out.rm).mono ?_
  rintro e w7 ⟨rfl, hf7, hm7⟩
  have HX7 : Hid (LS R T w X w7 q5 (l + 1) tx v A (.slice none 0 0)) := by unfold Hid; rw [HQ5.out]; exact HX6.out.step hf7 hm7
  have hR5 : R < w5.heap.size := HX5.out.rm.lt
  have HT7 : Hid (∀ t j, (q3.bind fun _ a => pExpr (by' T) f a (l + 1)) = .ok t j → XT w5.heap.size w7 t (.pointer va)) := fun t j h => (HT6.out t j h).fr hf7 hR5
  clear hf7 hm7 HT6
  go_wp2_with fail
  refine (HE6.out w7 HX7.out.rm).mono ?_
  rintro e w8 ⟨vb, rfl, hf8, hm8, ht8⟩
  have HX8 : Hid (LS R T w X w8 q6 (l + 1) tx v A (.slice none 0 0)) := by unfold Hid; rw [HQ6.out]; exact HX7.out.step hf8 hm8.cr
  have HT8 := hid ht8
  have HL7 := hid HX7.out.lt
  have HT7b : Hid (∀ t j, (q3.bind fun _ a => pExpr (by' T) f a (l + 1)) = .ok t j → XT w5.heap.size w8 t (.pointer va)) := fun t j h => (HT7.out t j h).fr hf8 hR5
  clear hf8 hm8 ht8 HT7
  obtain ⟨W9, hW9⟩ : ∃ W9, w8.alloc (.cells #[.pointer va, .pointer vb] 49) = W9 := ⟨_, rfl⟩
  have HX9 : Hid (LS R T w X W9 q6 (l + 1) tx v A (.slice none 0 0)) := by unfold Hid; rw [← hW9]; exact HX8.out.alloc _
  have HB9 : Hid (Below w8.heap.size w8 W9) := by unfold Hid; rw [← hW9]; exact (Below.refl _ _).alloc (Nat.le_refl _) _
  have HN9 : Hid (W9.heap[w8.heap.size]? = some (.cells #[.pointer va, .pointer vb] 49 (0, 0))) := by unfold Hid; rw [← hW9]; exact heap_alloc_new w8 _
  have x4 := HX9.out.c4
  have y4 := HX9.out.fz 4
  obtain ⟨W10, hW10⟩ : ∃ W10, W9.setCell ⟨X, 4, none⟩ (.slice (some ⟨w8.heap.size, 0, none⟩) 2 2) = W10 := ⟨_, rfl⟩
  have HX10 : Hid (LS R T w X W10 q6 (l + 1) tx v A (.slice (some ⟨w8.heap.size, 0, none⟩) 2 2)) := by unfold Hid; rw [← hW10]; exact HX9.out.put4 _
  obtain ⟨d, dd, r3, hdd, s3, hX11⟩ := HX10.out.back
  have HX11 := hid hX11
  have hL8 : X < w8.heap.size := HX8.out.lt
  have HE : Hid (XR R T q l w (.returned (.pointer (some ⟨X, 0, none⟩))) (W10.setCell ⟨R, 3, none⟩ (.int .i64 dd))) := by
    refine ⟨_, rfl, HX11.out.fr, ?_, fun t jj ht => ?_⟩
    · rw [HQQ.out]
      exact HX11.out.rm.map _
    · rw [HQQ.out] at ht
      obtain ⟨z, a6, h6, ht⟩ := Res.bind_ok ht
      obtain ⟨⟨⟨u, nm⟩, xa⟩, xb⟩ := z
      injection ht with ht _
      rw [HQ6.out] at h6
      have k6 := HT8.out _ _ (Res.cr_of h6)
      obtain ⟨a5, h5, _⟩ := Res.cr_ok h6
      rw [HQ5.out] at h5
      obtain ⟨a4, h4⟩ := Res.wn_ok h5
      rw [HQ4.out] at h4
      have k4 := HT7b.out _ _ (Res.cr_of h4)
      obtain ⟨a3, h3, _⟩ := Res.cr_ok h4
      rw [HQ3.out] at h3
      obtain ⟨a2, h2⟩ := Res.wn_ok h3
      rw [HQ2.out] at h2
      have k2 := HV3.out _ _ (Res.cr_of h2)
      obtain ⟨a1, h1, h1'⟩ := Res.cr_ok h2
      have kA := HA.out _ _ h1 (pName_at h1').1
      rw [← (pName_at h1').2] at kA
      have hRX : R < X := by have := HX8.out.hX; have := HX8.out.hR; omega
      have kk4 : XT w5.heap.size (W10.setCell ⟨R, 3, none⟩ (.int .i64 dd)) xa (.pointer va) := by
        refine (XT.put ?_ (by have := HL5.out; omega) 3 _)
        rw [← hW10]
        exact (k4.below HB9.out).put HL5.out 4 _
      have kk6 : XT w7.heap.size (W10.setCell ⟨R, 3, none⟩ (.int .i64 dd)) xb (.pointer vb) := by
        refine (XT.put ?_ (by have := HL7.out; omega) 3 _)
        rw [← hW10]
        exact (k6.below HB9.out).put HL7.out 4 _
      have hsz5 : w.heap.size ≤ w5.heap.size := HX5.out.fr.size
      have hsz7 : w.heap.size ≤ w7.heap.size := HX7.out.fr.size
      have hsz8 : w.heap.size ≤ w8.heap.size := HX8.out.fr.size
      rw [← ht]
      refine ⟨X, some ⟨w8.heap.size, 0, none⟩, 2, A, rfl, HX8.out.hX, ?_, fun _ => kA, ?_⟩
      · have := HX11.out.xb
        rw [k2, HTX.out] at this
        exact this
      · have hcell : ∀ i y, (#[Value.pointer va, Value.pointer vb] : Array Value)[i]? = some y → (W10.setCell ⟨R, 3, none⟩ (.int .i64 dd)).cell? ⟨w8.heap.size, i, none⟩ = some y := fun i y hy => by
          rw [World.cell?_of_block (a := ⟨w8.heap.size, i, none⟩) (heap_setCell_other _ _ _ _ (by show w8.heap.size ≠ R; omega)), ← hW10, World.cell?_of_block (a := ⟨w8.heap.size, i, none⟩) (heap_setCell_other _ _ _ _ (by show w8.heap.size ≠ X; omega))]
          simp [World.cell?, HN9.out]
          simpa using hy
        exact ⟨⟨_, _, rfl, hsz8, hcell 0 _ rfl, kk4.mono hsz5⟩, ⟨_, _, rfl, hsz8, hcell 1 _ rfl, kk6.mono hsz7⟩, trivial⟩
  clear hX11 HX11
  go_wp2_with fail
  go_ret
  exact HE.out

end Go.Proofs.YtmmgkdcojkmlcaaGreatDoor
