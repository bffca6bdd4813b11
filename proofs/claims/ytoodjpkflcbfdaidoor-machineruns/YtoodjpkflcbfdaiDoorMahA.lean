/- Package machine: cells that are told, as a map; look, tell, must, one. -/
import Derived.Test.YtoodjpkflcbfdaiDoorMacJ
import Derived.Maps.OwnOps
import Derived.Maps.OwnSet
import Derived.WalkLawsBesides
namespace Go.Proofs.YtoodjpkflcbfdaiDoor
open Go.RowKit Go.Maps

theorem keyI : Keyed Tryd.prog 3 := int_keyed Tryd.underlying3
theorem zeroI (w : World) : (zeroValue 3).run Tryd.prog w = .ok (.int .i64 0) w := by kernel_rfl
/-- what a cell is -/
def cvl (cs : List (Int × Int)) (x : Int) : Int := if 0 ≤ finz cs x then (cat cs (finz cs x).toNat).2 else 0
/-- a map that reads as cells that are told -/
def CMap (D : DataW Unit) (cs : List (Int × Int)) : Prop := ∀ x : Int, (-9223372036854775808 ≤ x ∧ x ≤ 9223372036854775807) → Maps.has D (.int .i64 x) = decide (0 ≤ finz cs x) ∧ D.atKey (.int .i64 x) (.lit (.int .i64 0)) = .lit (.int .i64 (cvl cs x))
def MapAt (w : World) (B n : Nat) (cs : List (Int × Int)) : Prop := ∃ D : DataW Unit, w.ownsMap Tryd.prog 3 (plainElem Tryd.prog 3) B n D ∧ CMap D cs
theorem MapAt.kept {w w' : World} {B n : Nat} {cs : List (Int × Int)} {row : Option Nat} (h : MapAt w B n cs) (hg : w.grownBy w' row) (hne : some B ≠ row) : MapAt w' B n cs := by
  obtain ⟨D, h1, h2⟩ := h
  exact ⟨D, h1.kept hg hne, h2⟩
/-- a run that did not go on -/
def pnc (T : TypeId) : Ending := .panicked [{ v := .iface T (.agg #[]), recovered := false }]
/-- a run in memory -/
def rnv (b B : Nat) (aL : Option Addr) (nL cL : Nat) (n : Rg) : Nat → Value
  | 0 => .pointer (some ⟨b, 0, none⟩)
  | 1 => .slice aL nL cL
  | 2 => .map (some B)
  | 3 => .int .i64 n.pc
  | 4 => .int .i64 n.fp
  | 5 => .int .i64 n.ap
  | _ => .int .i64 n.rv
def RnAt (w : World) (R b B : Nat) (aL : Option Addr) (nL cL : Nat) (n : Rg) : Prop := w.rowIs R 111 7 (rnv b B aL nL cL n)
theorem key64 {x : Int} (h : -9223372036854775808 ≤ x ∧ x ≤ 9223372036854775807) : keyOf Tryd.prog 3 (.int .i64 x) = some (.int .i64 x) := keyOf_int_mk Tryd.underlying3 (WalkArith.wf_i64 h)

theorem pmust_yes (w : World) : Calls Tryd.prog 85 #[.bool true] w fun e w' => e = .returned (.tuple #[]) ∧ w' = w := by
  have hnot : ∀ (x : Bool) (w : World), (Op.unary .not (.bool x)).run Tryd.prog w = .ok (.bool (!x)) w := fun _ _ => rfl
  go_enter Tryd.func85, Tryd.ntmps85
  go_wp2_with fail
  go_end0
  exact ⟨rfl, rfl⟩
theorem pmust_no (w : World) : Calls Tryd.prog 85 #[.bool false] w fun e w' => e = pnc 105 ∧ w' = w := by
  have hnot : ∀ (x : Bool) (w : World), (Op.unary .not (.bool x)).run Tryd.prog w = .ok (.bool (!x)) w := fun _ _ => rfl
  go_enter Tryd.func85, Tryd.ntmps85
  go_wp2_with fail
  exact ⟨rfl, rfl, rfl⟩
theorem pone_any (b : Bool) (w : World) : Calls Tryd.prog 123 #[.bool b] w fun e w' => e = .returned (.int .i64 (if b then 1 else 0)) ∧ w' = w := by
  cases b
  all_goals
    go_enter Tryd.func123, Tryd.ntmps123
    go_wp2_with fail
    go_ret
    exact ⟨rfl, rfl⟩

theorem plook_yes (R b B nB : Nat) (aL : Option Addr) (nL cL : Nat) (n : Rg) (cs : List (Int × Int)) (x : Int) (w : World) (hR : RnAt w R b B aL nL cL n) (hM : MapAt w B nB cs) (hx : -9223372036854775808 ≤ x ∧ x ≤ 9223372036854775807) (ht : 0 ≤ finz cs x) :
    Calls Tryd.prog 120 #[.pointer (some ⟨R, 0, none⟩), .int .i64 x] w fun e w' => e = .returned (.int .i64 (cvl cs x)) ∧ w' = w := by
  have hnot : ∀ (x : Bool) (w : World), (Op.unary .not (.bool x)).run Tryd.prog w = .ok (.bool (!x)) w := fun _ _ => rfl
  obtain ⟨D, hD, hC⟩ := hM
  have HC := hid (hC x hx)
  have c2 : w.cell? ⟨R, 2, none⟩ = some (.map (some B)) := hR.cell (i := 2) (by decide)
  have HT := hid ht
  clear hC hR ht
  go_enter Tryd.func120, Tryd.ntmps120
  go_wp2_with (at_lookup; refine wpList_lookup_own_ok_int _ rfl _ _ 62 rfl 3 3 .i64 keyI Tryd.underlying62 Tryd.underlying3 (zeroI _) B nB _ rfl hD _ _ rfl (key64 hx) ?_; intro c hat hwc; rw [HC.out.1, decide_eq_true HT.out]; obtain rfl : c = cvl cs x := by (rw [HC.out.2] at hat; injection hat with hat; injection hat with _ hat; exact hat.symm))
  go_ret
  exact ⟨rfl, rfl⟩

theorem plook_no (R b B nB : Nat) (aL : Option Addr) (nL cL : Nat) (n : Rg) (cs : List (Int × Int)) (x : Int) (w : World) (hR : RnAt w R b B aL nL cL n) (hM : MapAt w B nB cs) (hx : -9223372036854775808 ≤ x ∧ x ≤ 9223372036854775807) (ht : ¬ 0 ≤ finz cs x) :
    Calls Tryd.prog 120 #[.pointer (some ⟨R, 0, none⟩), .int .i64 x] w fun e w' => e = pnc 104 ∧ w' = w := by
  have hnot : ∀ (x : Bool) (w : World), (Op.unary .not (.bool x)).run Tryd.prog w = .ok (.bool (!x)) w := fun _ _ => rfl
  obtain ⟨D, hD, hC⟩ := hM
  have HC := hid (hC x hx)
  have c2 : w.cell? ⟨R, 2, none⟩ = some (.map (some B)) := hR.cell (i := 2) (by decide)
  have HT := hid ht
  clear hC hR ht
  go_enter Tryd.func120, Tryd.ntmps120
  go_wp2_with (at_lookup; refine wpList_lookup_own_ok_int _ rfl _ _ 62 rfl 3 3 .i64 keyI Tryd.underlying62 Tryd.underlying3 (zeroI _) B nB _ rfl hD _ _ rfl (key64 hx) ?_; intro c hat hwc; rw [HC.out.1, decide_eq_false HT.out]; obtain rfl : c = cvl cs x := by (rw [HC.out.2] at hat; injection hat with hat; injection hat with _ hat; exact hat.symm))
  exact ⟨rfl, rfl, rfl⟩

theorem finz_app {cs : List (Int × Int)} {d : Int × Int} {x : Int} : finz (cs ++ [d]) x = if 0 ≤ finz cs x then finz cs x else if d.1 = x then (cs.length : Int) else -1 := by
  unfold finz
  rw [List.findIdx?_append]
  cases h : cs.findIdx? (fun c => c.1 == x) with
  | some i => simp
  | none =>
    by_cases hd : d.1 = x
    · simp [hd, List.findIdx?_cons]
    · simp [hd, List.findIdx?_cons]
theorem finz_bound {cs : List (Int × Int)} {x : Int} (h : 0 ≤ finz cs x) : (finz cs x).toNat < cs.length ∧ (cat cs (finz cs x).toNat).1 = x := by
  unfold finz at h ⊢
  cases hf : cs.findIdx? (fun c => c.1 == x) with
  | none => rw [hf] at h; simp at h
  | some i =>
    rw [hf] at h
    simp only [Int.toNat_natCast]
    obtain ⟨h1, h2, _⟩ := List.findIdx?_eq_some_iff_getElem.1 hf
    refine ⟨h1, ?_⟩
    simp [cat, h1]
    simpa using h2
/-- the cells behind a telling -/
def tld (cs : List (Int × Int)) (x y : Int) : List (Int × Int) := if 0 ≤ finz cs x then cs else cs ++ [(x, y)]
theorem tld_finz {cs : List (Int × Int)} {x y z : Int} : (0 ≤ finz (tld cs x y) z) ↔ (0 ≤ finz cs z ∨ z = x) := by
  unfold tld
  split
  · rename_i h
    constructor
    · exact .inl
    · rintro (h2 | rfl)
      · exact h2
      · exact h
  · rename_i h
    rw [finz_app]
    constructor
    · intro h2
      by_cases h3 : 0 ≤ finz cs z
      · exact .inl h3
      · rw [if_neg h3] at h2
        by_cases h4 : x = z
        · exact .inr h4.symm
        · simp only [] at h2
          rw [if_neg h4] at h2
          omega
    · rintro (h2 | rfl)
      · rw [if_pos h2]; exact h2
      · rw [if_neg h, if_pos rfl]; omega
theorem tld_cvl {cs : List (Int × Int)} {x y z : Int} (hs : 0 ≤ finz cs x → cvl cs x = y) : cvl (tld cs x y) z = if z = x then y else cvl cs z := by
  by_cases hz : z = x
  · subst hz
    rw [if_pos rfl]
    unfold tld
    split
    · rename_i h; exact hs h
    · rename_i h
      unfold cvl
      rw [finz_app, if_neg h, if_pos rfl, if_pos (by omega)]
      simp [cat]
  · rw [if_neg hz]
    unfold tld
    split
    · rfl
    · rename_i h
      unfold cvl
      rw [finz_app]
      by_cases h2 : 0 ≤ finz cs z
      · rw [if_pos h2, if_pos h2, if_pos h2, cat_app (finz_bound h2).1]
      · rw [if_neg h2, if_neg (show ¬ (x, y).1 = z from fun e => hz e.symm), if_neg (by omega), if_neg h2]
theorem cmap_put {D : DataW Unit} {cs : List (Int × Int)} {x y : Int} (h : CMap D cs) (hi : IsMap D) (hs : 0 ≤ finz cs x → cvl cs x = y) : CMap (D.put (.int .i64 x) (.lit (.int .i64 y))) (tld cs x y) := fun z hz => by
  rw [tld_cvl hs]
  by_cases hzx : z = x
  · subst hzx
    rw [has_put_same (k := Lit.int .i64 z) hi trivial, atKey_put_same (k := Lit.int .i64 z) hi trivial, if_pos rfl, decide_eq_true (tld_finz.2 (.inr rfl))]
    exact ⟨rfl, rfl⟩
  · have hne : (Lit.int .i64 z) ≠ (Lit.int .i64 x) := by intro e; injection e with _ e; exact hzx e
    rw [has_put_other hne, atKey_put_other hne, if_neg hzx, (h z hz).1, (h z hz).2]
    refine ⟨?_, rfl⟩
    rw [decide_eq_decide]
    constructor
    · exact fun h2 => tld_finz.2 (.inl h2)
    · intro h2
      rcases tld_finz.1 h2 with h3 | h3
      · exact h3
      · exact absurd h3 hzx

theorem ptell_yes (R b B nB : Nat) (aL : Option Addr) (nL cL : Nat) (n : Rg) (cs : List (Int × Int)) (x y : Int) (w : World) (hR : RnAt w R b B aL nL cL n) (hM : MapAt w B nB cs) (hnB : nB < maxLen) (hx : -9223372036854775808 ≤ x ∧ x ≤ 9223372036854775807) (hy : -9223372036854775808 ≤ y ∧ y ≤ 9223372036854775807) (hs : 0 ≤ finz cs x → cvl cs x = y) :
    Calls Tryd.prog 119 #[.pointer (some ⟨R, 0, none⟩), .int .i64 x, .int .i64 y] w fun e w' => e = .returned (.tuple #[]) ∧ MapAt w' B (nB + 1) (tld cs x y) ∧ w.grownBy w' (some B) := by
  have hnot : ∀ (x : Bool) (w : World), (Op.unary .not (.bool x)).run Tryd.prog w = .ok (.bool (!x)) w := fun _ _ => rfl
  obtain ⟨D, hD, hC⟩ := hM
  have HC := hid (hC x hx)
  have HP := hid (cmap_put hC hD.isMap hs)
  have HS := hid hs
  have HMU := hid (pmust_yes w)
  have c2 : w.cell? ⟨R, 2, none⟩ = some (.map (some B)) := hR.cell (i := 2) (by decide)
  clear hC hR hs
  by_cases ht : 0 ≤ finz cs x
  · have he : (cvl cs x == y) = true := by rw [HS.out ht]; simp
    have HT := hid ht
    clear ht
    go_enter Tryd.func119, Tryd.ntmps119
    go_wp2_with (first | (at_lookup; refine wpList_lookup_own_ok_int _ rfl _ _ 62 rfl 3 3 .i64 keyI Tryd.underlying62 Tryd.underlying3 (zeroI _) B nB _ rfl hD _ _ rfl (key64 hx) ?_; intro c hat hwc; rw [HC.out.1, decide_eq_true HT.out]; obtain rfl : c = cvl cs x := by (rw [HC.out.2] at hat; injection hat with hat; injection hat with _ hat; exact hat.symm)) | (at_mapUpdate; refine wpList_mapUpdate_own _ rfl _ _ _ 62 rfl 3 3 keyI Tryd.underlying62 _ B nB _ rfl hD hnB _ _ _ rfl rfl (key64 hx) _ [] (plainElem_int Tryd.underlying3 (WalkArith.wf_i64 hy)) ?_; intro w1 hown1 hgrow1))
    refine HMU.out.mono ?_
    rintro e w2 ⟨rfl, rfl⟩
    go_wp2_with (first | (at_mapUpdate; refine wpList_mapUpdate_own _ rfl _ _ _ 62 rfl 3 3 keyI Tryd.underlying62 _ B nB _ rfl hD hnB _ _ _ rfl rfl (key64 hx) _ [] (plainElem_int Tryd.underlying3 (WalkArith.wf_i64 hy)) ?_; intro w1 hown1 hgrow1))
    go_end0
    exact ⟨rfl, ⟨_, hown1, HP.out⟩, hgrow1⟩
  · have HT := hid ht
    clear ht
    go_enter Tryd.func119, Tryd.ntmps119
    go_wp2_with (first | (at_lookup; refine wpList_lookup_own_ok_int _ rfl _ _ 62 rfl 3 3 .i64 keyI Tryd.underlying62 Tryd.underlying3 (zeroI _) B nB _ rfl hD _ _ rfl (key64 hx) ?_; intro c hat hwc; rw [HC.out.1, decide_eq_false HT.out]; obtain rfl : c = cvl cs x := by (rw [HC.out.2] at hat; injection hat with hat; injection hat with _ hat; exact hat.symm)))
    refine HMU.out.mono ?_
    rintro e w2 ⟨rfl, rfl⟩
    go_wp2_with (first | (at_mapUpdate; refine wpList_mapUpdate_own _ rfl _ _ _ 62 rfl 3 3 keyI Tryd.underlying62 _ B nB _ rfl hD hnB _ _ _ rfl rfl (key64 hx) _ [] (plainElem_int Tryd.underlying3 (WalkArith.wf_i64 hy)) ?_; intro w1 hown1 hgrow1))
    go_end0
    exact ⟨rfl, ⟨_, hown1, HP.out⟩, hgrow1⟩
theorem ptell_no (R b B nB : Nat) (aL : Option Addr) (nL cL : Nat) (n : Rg) (cs : List (Int × Int)) (x y : Int) (w : World) (hR : RnAt w R b B aL nL cL n) (hM : MapAt w B nB cs) (hx : -9223372036854775808 ≤ x ∧ x ≤ 9223372036854775807) (ht : 0 ≤ finz cs x) (hs : cvl cs x ≠ y) :
    Calls Tryd.prog 119 #[.pointer (some ⟨R, 0, none⟩), .int .i64 x, .int .i64 y] w fun e w' => e = pnc 105 ∧ w' = w := by
  have hnot : ∀ (x : Bool) (w : World), (Op.unary .not (.bool x)).run Tryd.prog w = .ok (.bool (!x)) w := fun _ _ => rfl
  obtain ⟨D, hD, hC⟩ := hM
  have HC := hid (hC x hx)
  have HMU := hid (pmust_no w)
  have c2 : w.cell? ⟨R, 2, none⟩ = some (.map (some B)) := hR.cell (i := 2) (by decide)
  have he : (cvl cs x == y) = false := by rw [beq_eq_false_iff_ne]; exact hs
  have HT := hid ht
  clear hC hR hs ht
  go_enter Tryd.func119, Tryd.ntmps119
  go_wp2_with (first | (at_lookup; refine wpList_lookup_own_ok_int _ rfl _ _ 62 rfl 3 3 .i64 keyI Tryd.underlying62 Tryd.underlying3 (zeroI _) B nB _ rfl hD _ _ rfl (key64 hx) ?_; intro c hat hwc; rw [HC.out.1, decide_eq_true HT.out]; obtain rfl : c = cvl cs x := by (rw [HC.out.2] at hat; injection hat with hat; injection hat with _ hat; exact hat.symm)))
  refine HMU.out.mono ?_
  rintro e w2 ⟨rfl, rfl⟩
  exact ⟨rfl, rfl, rfl⟩

end Go.Proofs.YtoodjpkflcbfdaiDoor
