/- Programs as text, plainly: another fuel. The reference of programs as text: functions by name, names in a list. Programs as text, plainly: an expression has no more parts than its text has bytes. Programs as text: how a program is written, how long that is; parts. The reference of programs as text: the names of an expression. -/
import Derived.Test.YtmmgkdcojkmlcaaGreatDoorLFAW
import Derived.Test.YtmmgkdcojkmlcaaGreatDoorRgP
import Derived.Test.YtmmgkdcojkmlcaaGreatDoorLFAH
import Derived.Test.YtmmgkdcojkmlcaaGreatDoorLFAS
import Derived.Laws.AppendOwnNone
namespace Go.Proofs.YtmmgkdcojkmlcaaGreatDoor

/-- with another fuel: the same, where it is enough, and too long, where it isn't -/
def FuR {α : Type} (f2 : Nat) (r1 r2 : ER α) : Prop := ∀ x k, r1 = .val x k → (k ≤ f2 → r2 = .val x k) ∧ (f2 < k → r2 = .stop 8)
theorem FuR.bind {α β : Type} {f2 : Nat} {r1 r2 : ER α} {g1 g2 : α → Nat → ER β} (h : FuR f2 r1 r2) (hm : ∀ x k y j, r1 = .val x k → g1 x k = .val y j → k ≤ j) (hg : ∀ x k, r1 = .val x k → k ≤ f2 → FuR f2 (g1 x k) (g2 x k)) : FuR f2 (r1.bind g1) (r2.bind g2) := by
  intro y j hv
  obtain ⟨x, k, e1, e2⟩ := ER.bind_val hv
  obtain ⟨h1, h2⟩ := h x k e1
  have hkj := hm x k y j e1 e2
  by_cases hk : k ≤ f2
  · rw [h1 hk]
    exact hg x k e1 hk y j e2
  · rw [h2 (by omega)]
    exact ⟨fun h => by omega, fun _ => rfl⟩
theorem FuR.val {α : Type} {f2 : Nat} (x : α) {k : Nat} (hk : k ≤ f2) : FuR f2 (.val x k) (.val x k) := by
  intro y j h
  injection h with h1 h2
  subst h1 h2
  exact ⟨fun _ => rfl, fun h => by omega⟩
end Go.Proofs.YtmmgkdcojkmlcaaGreatDoor

namespace Go.Proofs.YtmmgkdcojkmlcaaGreatDoor
open Go.RowKit

/-- functions of the reference in a row -/
structure RFl (lo : Nat) (w : World) (a : Option Addr) (fs : List FnT) (Xs : List Nat) : Prop where
  len : Xs.length = fs.length
  at' : ∀ i g X, fs[i]? = some g → Xs[i]? = some X → (∃ k, a = some ⟨k, 0, none⟩ ∧ lo ≤ k ∧ w.cell? ⟨k, i, none⟩ = some (.pointer (some ⟨X, 0, none⟩))) ∧ RFn lo w g X
theorem RFl.keep {lo lo' : Nat} {w w' : World} {a : Option Addr} {fs : List FnT} {Xs : List Nat} (h : RFl lo w a fs Xs) (hl : lo' ≤ lo) (hk : ∀ b, lo ≤ b → b < w.heap.size → w'.heap[b]? = w.heap[b]?) : RFl lo' w' a fs Xs := ⟨h.len, fun i g X hg hX => by
  obtain ⟨⟨k, k1, k2, k3⟩, h2⟩ := h.at' i g X hg hX
  exact ⟨⟨k, k1, Nat.le_trans hl k2, (World.cell?_of_block (a := ⟨k, i, none⟩) (hk k k2 (World.block_lt_of_cell? _ _ k3))).trans k3⟩, h2.keep hl hk⟩⟩
theorem RFl.below {lo : Nat} {w w' : World} {a : Option Addr} {fs : List FnT} {Xs : List Nat} (h : RFl lo w a fs Xs) (hb : Below w.heap.size w w') : RFl lo w' a fs Xs := h.keep (Nat.le_refl _) (fun b _ hl => hb.block b hl)
theorem RFl.get {lo : Nat} {w : World} {a : Option Addr} {fs : List FnT} {Xs : List Nat} (h : RFl lo w a fs Xs) {i : Nat} (hi : i < fs.length) : ∃ g X k, fs[i]? = some g ∧ Xs[i]? = some X ∧ a = some ⟨k, 0, none⟩ ∧ w.cell? ⟨k, i, none⟩ = some (.pointer (some ⟨X, 0, none⟩)) ∧ RFn lo w g X := by
  have h1 : fs[i]? = some fs[i] := List.getElem?_eq_getElem hi
  have h2 : Xs[i]? = some (Xs[i]'(by rw [h.len]; exact hi)) := List.getElem?_eq_getElem _
  obtain ⟨⟨k, k1, _, k3⟩, h4⟩ := h.at' i _ _ h1 h2
  exact ⟨_, _, k, h1, h2, k1, k3, h4⟩
theorem RFn.c0 {lo : Nat} {w : World} {g : FnT} {X : Nat} (h : RFn lo w g X) : w.cell? ⟨X, 0, none⟩ = some (.string (bs g.name)) := by
  obtain ⟨am, cm, aw, cw, pb, _, h2, _⟩ := h
  simp [World.cell?, h2]
/-- the number of the first function of a name -/
def fnd (fs : List FnT) (nm : List UInt8) : Option Nat := fs.findIdx? (fun g => g.name == nm)
theorem fnd_at {fs : List FnT} {nm : List UInt8} {k : Nat} {g : FnT} (h : ∀ (j : Nat) (g : FnT), j < k → fs[j]? = some g → ¬ g.name = nm) (hk : fs[k]? = some g) (hn : g.name = nm) : fnd fs nm = some k := by
  unfold fnd
  rw [List.findIdx?_eq_some_iff_getElem]
  obtain ⟨h1, h2⟩ := List.getElem?_eq_some_iff.1 hk
  refine ⟨h1, by rw [h2]; simpa using hn, fun j hj => ?_⟩
  have := h j fs[j] hj (List.getElem?_eq_getElem (by omega))
  simpa using this
theorem fnd_no {fs : List FnT} {nm : List UInt8} (h : ∀ (j : Nat) (g : FnT), fs[j]? = some g → ¬ g.name = nm) : fnd fs nm = none := by
  unfold fnd
  rw [List.findIdx?_eq_none_iff]
  intro x hx
  obtain ⟨i, hi⟩ := List.getElem?_of_mem hx
  have := h i x hi
  simpa using this

/-- how Find ends -/
def FdE (fs : List FnT) (Xs : List Nat) (nm : List UInt8) (e : Ending) : Prop := (fnd fs nm = none ∧ e = .returned (.pointer none)) ∨ ∃ k X, fnd fs nm = some k ∧ Xs[k]? = some X ∧ e = .returned (.pointer (some ⟨X, 0, none⟩))

set_option maxRecDepth 100000 in
set_option maxHeartbeats 1000000 in
theorem rgfind_any (lo c : Nat) (a : Option Addr) (fs : List FnT) (Xs : List Nat) (nm : ByteArray) (w : World) (hF : RFl lo w a fs Xs) (hn : fs.length ≤ 1000000) : Calls Tryz.prog 13 #[.slice a fs.length c, .string nm] w fun e w' => w' = w ∧ FdE fs Xs (by' nm) e := by
  have HF := hid hF
  obtain ⟨n, hnn⟩ : ∃ n, n = fs.length := ⟨_, rfl⟩
  have HN := hid hnn
  rw [← hnn] at hn ⊢
  clear hF hnn
  go_enter Tryz.func13, Tryz.ntmps13
  go_wp2_with fail
  go_loop [5] (fun v => ∃ k : Nat, k ≤ n ∧ v = .int .i64 k ∧ Hid (∀ j g, j < k → fs[j]? = some g → ¬ g.name = by' nm)) (fun v => n - (intOf v).toNat)
  case atStart => exact ⟨0, Nat.zero_le _, rfl, fun j g hj => by omega⟩
  case round =>
    obtain ⟨k, hk, rfl, HA⟩ := hrel
    by_cases hlt : k < n
    · have hlt2 : (k : Int) < (n : Int) := by omega
      have hwr : IntKind.i64.wrap ((k : Int) + 1) = (k : Int) + 1 := by rw [IntKind.wrap_i64]; omega
      obtain ⟨g, X, kb, hg, hX, rfl, hc, hR⟩ := HF.out.get (i := k) (by have := HN.out; omega)
      have c0 := hR.c0
      have HG := hid hg
      have HX := hid hX
      by_cases he : g.name = by' nm
      · have q : ((bs g.name).toList == nm.toList) = true := by rw [bs_list, by_list, he]; simp
        have HK := hid (fnd_at HA.out hg he)
        generalize bs g.name = gn at *
        clear hg hX hR he
        go_wp2_with fail
        go_ret
        exact ⟨rfl, Or.inr ⟨k, X, HK.out, HX.out, rfl⟩⟩
      · have q : ((bs g.name).toList == nm.toList) = false := by rw [bs_list, by_list]; simpa using he
        have HA2 : Hid (∀ j g, j < k + 1 → fs[j]? = some g → ¬ g.name = by' nm) := fun j g' hj hg' => by
          rcases Nat.lt_or_ge j k with h | h
          · exact HA.out j g' h hg'
          · obtain rfl : j = k := by omega
            rw [HG.out] at hg'
            injection hg' with hg'
            rw [← hg']; exact he
        generalize bs g.name = gn at *
        clear hg hX hR he
        go_wp2_with fail
        go_round
        case rel => exact ⟨k + 1, by omega, by go_num, HA2⟩
        case measure => simp [intOf]; omega
    · obtain rfl : k = n := by omega
      have hlt2 : ¬ (k : Int) < (k : Int) := by omega
      have HK : Hid (fnd fs (by' nm) = none) := fnd_no (fun j g hg => HA.out j g (by have := (List.getElem?_eq_some_iff.1 hg).1; have := HN.out; omega) hg)
      go_wp2_with fail
      go_ret
      exact ⟨rfl, Or.inl ⟨HK.out, rfl⟩⟩

/-- names in a row -/
def SLs (w : World) (a : Option Addr) (ss : List (List UInt8)) : Prop := ∀ i s, ss[i]? = some s → ∃ k, a = some ⟨k, 0, none⟩ ∧ w.cell? ⟨k, i, none⟩ = some (.string (bs s))
theorem SLs.below {w w' : World} {a : Option Addr} {ss : List (List UInt8)} (h : SLs w a ss) (hb : Below w.heap.size w w') : SLs w' a ss := fun i s hs => by
  obtain ⟨k, k1, k2⟩ := h i s hs
  exact ⟨k, k1, (hb.cell (p := ⟨k, i, none⟩) (World.block_lt_of_cell? _ _ k2)).trans k2⟩
theorem SLs.take {w : World} {a : Option Addr} {ss : List (List UInt8)} (h : SLs w a ss) (k : Nat) : SLs w a (ss.take k) := fun i s hs => by
  refine h i s ?_
  rcases Nat.lt_or_ge i k with g | g
  · rwa [List.getElem?_take_of_lt g] at hs
  · rw [List.getElem?_take, if_neg (by omega)] at hs; cases hs

set_option maxRecDepth 100000 in
set_option maxHeartbeats 1000000 in
theorem rhas_any (c n : Nat) (a : Option Addr) (ss : List (List UInt8)) (s : ByteArray) (w : World) (hS : SLs w a ss) (hnn : n = ss.length) (hn : n ≤ 1000000) : Calls Tryz.prog 42 #[.slice a n c, .string s] w fun e w' => w' = w ∧ e = .returned (.bool (decide (by' s ∈ ss))) := by
  have HF := hid hS
  have HN := hid hnn
  obtain ⟨r, hr⟩ : ∃ r, r = decide (by' s ∈ ss) := ⟨_, rfl⟩
  have HR := hid hr
  rw [← hr]
  clear hS hnn hr
  go_enter Tryz.func42, Tryz.ntmps42
  go_wp2_with fail
  go_loop [5] (fun v => ∃ k : Nat, k ≤ n ∧ v = .int .i64 k ∧ Hid (∀ j x, j < k → ss[j]? = some x → ¬ x = by' s)) (fun v => n - (intOf v).toNat)
  case atStart => exact ⟨0, Nat.zero_le _, rfl, fun j g hj => by omega⟩
  case round =>
    obtain ⟨k, hk, rfl, HA⟩ := hrel
    by_cases hlt : k < n
    · have hlt2 : (k : Int) < (n : Int) := by omega
      have hwr : IntKind.i64.wrap ((k : Int) + 1) = (k : Int) + 1 := by rw [IntKind.wrap_i64]; omega
      obtain ⟨x, hx⟩ : ∃ x, ss[k]? = some x := ⟨_, List.getElem?_eq_getElem (by have := HN.out; omega)⟩
      obtain ⟨kb, rfl, hc⟩ := HF.out k x hx
      have HX := hid hx
      by_cases he : x = by' s
      · have q : ((bs x).toList == s.toList) = true := by rw [bs_list, by_list, he]; simp
        have hrt : r = true := by rw [HR.out]; simp; rw [← he]; exact List.mem_of_getElem? hx
        subst hrt
        generalize bs x = gn at *
        clear hx he
        go_wp2_with fail
        go_ret
        exact ⟨rfl, rfl⟩
      · have q : ((bs x).toList == s.toList) = false := by rw [bs_list, by_list]; simpa using he
        have HA2 : Hid (∀ j x, j < k + 1 → ss[j]? = some x → ¬ x = by' s) := fun j g' hj hg' => by
          rcases Nat.lt_or_ge j k with h | h
          · exact HA.out j g' h hg'
          · obtain rfl : j = k := by omega
            rw [HX.out] at hg'
            injection hg' with hg'
            rw [← hg']; exact he
        generalize bs x = gn at *
        clear hx he
        go_wp2_with fail
        go_round
        case rel => exact ⟨k + 1, by omega, by go_num, HA2⟩
        case measure => simp [intOf]; omega
    · obtain rfl : k = n := by omega
      have hlt2 : ¬ (k : Int) < (k : Int) := by omega
      have hrf : r = false := by
        rw [HR.out]
        simp
        intro hm
        obtain ⟨i, hi⟩ := List.getElem?_of_mem hm
        exact HA.out i _ (by have := (List.getElem?_eq_some_iff.1 hi).1; have := HN.out; omega) hi rfl
      subst hrf
      go_wp2_with fail
      go_ret
      exact ⟨rfl, rfl⟩

end Go.Proofs.YtmmgkdcojkmlcaaGreatDoor

namespace Go.Proofs.YtmmgkdcojkmlcaaGreatDoor

/-- what is read is no greater than what was read -/
def Res.Sz {α : Type} (r : Res α) (m : α → Nat) (c a : Nat) : Prop := ∀ x j, r = .ok x j → m x + a ≤ j + c
theorem Res.Sz.bind {α β : Type} {r : Res α} {f : α → Nat → Res β} {m : β → Nat} {c a : Nat} (h : ∀ x k, r = .ok x k → (f x k).Sz m c a) : (r.bind f).Sz m c a := by
  intro y j hy
  cases r with
  | out => cases hy
  | bad e b => cases hy
  | ok x k => exact h x k rfl y j hy
theorem Res.Sz.ok {α : Type} {x : α} {m : α → Nat} {c a j : Nat} (h : m x + a ≤ j + c) : (Res.ok x j).Sz m c a := by
  intro y k hy
  injection hy with h1 h2
  subst h1 h2
  exact h
theorem Res.Sz.bad {α : Type} {m : α → Nat} {c a e b : Nat} : (Res.bad e b : Res α).Sz m c a := fun _ _ h => (nomatch h)
theorem Res.Sz.out {α : Type} {m : α → Nat} {c a : Nat} : (Res.out : Res α).Sz m c a := fun _ _ h => (nomatch h)
theorem pTake_gt {L : List UInt8} {k a j : Nat} {t : Tok} (h : pTake L k a = .ok t j) (ha : a ≤ L.length) (hk : k ≠ 1) : a + 1 ≤ j ∧ j ≤ L.length := by
  have := pTake_fx L k a ha hk
  rw [h] at this
  exact this
theorem pEnter_gt {L : List UInt8} {k a l j : Nat} {u : Unit} (h : pEnter L k a l = .ok u j) (ha : a ≤ L.length) (hk : k ≠ 1) : a + 1 ≤ j ∧ j ≤ L.length := by
  have := pEnter_fx L k a l ha hk
  rw [h] at this
  exact this
theorem pName_gt {L : List UInt8} {a j : Nat} {x : List UInt8 × Nat} (h : pName L a = .ok x j) (ha : a ≤ L.length) : a + 1 ≤ j ∧ j ≤ L.length := by
  have := pName_fx L a ha
  rw [h] at this
  exact this
theorem nx_gt {L : List UInt8} {a k : Nat} (ha : a ≤ L.length) (hk : (tok L a).kind = k) (h1 : k ≠ 1) : a + 1 ≤ (tok L a).nx ∧ (tok L a).nx ≤ L.length := by
  have := tok_at L a ha
  have h2 := this.2.2.2.1 (by omega)
  omega
theorem Res.Fx.gt {α : Type} {N a : Nat} {r : Res α} (h : r.Fx N a) {x : α} {j : Nat} (e : r = .ok x j) : a ≤ j ∧ j ≤ N := by
  rw [e] at h
  exact h
theorem tszs_app : ∀ (xs ys : List Tr), tszs (xs ++ ys) = tszs xs + tszs ys
  | [], ys => by simp [tszs]
  | x :: r, ys => by rw [List.cons_append, tszs, tszs, tszs_app r ys]; omega
theorem p_sz (L : List UInt8) : ∀ (f : Nat),
    (∀ a l, a ≤ L.length → (pExpr L f a l).Sz tsz 0 a) ∧
    (∀ a l, a ≤ L.length → (pSum L f a l).Sz tsz 0 a) ∧
    (∀ x a l, a ≤ L.length → (pSumL L f x a l).Sz tsz (tsz x) a) ∧
    (∀ a l, a ≤ L.length → (pProd L f a l).Sz tsz 0 a) ∧
    (∀ x a l, a ≤ L.length → (pProdL L f x a l).Sz tsz (tsz x) a) ∧
    (∀ a l, a ≤ L.length → (pPart L f a l).Sz tsz 0 a) ∧
    (∀ a l, a ≤ L.length → (pList L f a l).Sz tszs 0 a) ∧
    (∀ xs a l, a ≤ L.length → (pArgs L f xs a l).Sz tszs (tszs xs) a)
  | 0 => by
    refine ⟨?_, ?_, ?_, ?_, ?_, ?_, ?_, ?_⟩
    all_goals (intros; first | (rw [pExpr]; exact Res.Sz.out) | (rw [pSum]; exact Res.Sz.out) | (rw [pSumL]; exact Res.Sz.out) | (rw [pProd]; exact Res.Sz.out) | (rw [pProdL]; exact Res.Sz.out) | (rw [pPart]; exact Res.Sz.out) | (rw [pList]; exact Res.Sz.out) | (rw [pArgs]; exact Res.Sz.out))
  | f + 1 => by
    obtain ⟨iE, iS, iSL, iP, iPL, iX, iLs, iA⟩ := p_sz L f
    obtain ⟨xE, xS, xSL, xP, xPL, xX, xLs, xA⟩ := p_fx L f
    refine ⟨?_, ?_, ?_, ?_, ?_, ?_, ?_, ?_⟩
    · intro a l ha
      rw [pExpr]
      split
      · refine Res.Sz.bind fun _ a1 h1 => ?_
        have g1 := pEnter_gt h1 ha (by decide)
        refine Res.Sz.bind fun nm a2 h2 => ?_
        have g2 := pName_gt h2 g1.2
        refine Res.Sz.bind fun _ a3 h3 => ?_
        have g3 := pTake_gt h3 g2.2 (by decide)
        refine Res.Sz.bind fun x a4 h4 => ?_
        have g4 := (xE a3 (l + 1) g3.2).gt h4
        have s4 := iE a3 (l + 1) g3.2 x a4 h4
        refine Res.Sz.bind fun _ a5 h5 => ?_
        have g5 := pTake_gt h5 g4.2 (by decide)
        refine Res.Sz.bind fun y a6 h6 => ?_
        have s6 := iE a5 (l + 1) g5.2 y a6 h6
        refine Res.Sz.ok ?_
        rw [tsz, tszs, tszs, tszs]
        omega
      · split
        · refine Res.Sz.bind fun _ a1 h1 => ?_
          have g1 := pEnter_gt h1 ha (by decide)
          refine Res.Sz.bind fun x a2 h2 => ?_
          have g2 := (xS a1 (l + 1) g1.2).gt h2
          have s2 := iS a1 (l + 1) g1.2 x a2 h2
          refine Res.Sz.bind fun _ a3 h3 => ?_
          have g3 := pTake_gt h3 g2.2 (by decide)
          refine Res.Sz.bind fun y a4 h4 => ?_
          have g4 := (xS a3 (l + 1) g3.2).gt h4
          have s4 := iS a3 (l + 1) g3.2 y a4 h4
          refine Res.Sz.bind fun _ a5 h5 => ?_
          have g5 := pTake_gt h5 g4.2 (by decide)
          refine Res.Sz.bind fun z a6 h6 => ?_
          have s6 := iE a5 (l + 1) g5.2 z a6 h6
          refine Res.Sz.ok ?_
          rw [tsz, tszs, tszs, tszs, tszs]
          omega
        · split
          · refine Res.Sz.bind fun _ a1 h1 => ?_
            have g1 := pEnter_gt h1 ha (by decide)
            refine Res.Sz.bind fun x a2 h2 => ?_
            have g2 := (xE a1 (l + 1) g1.2).gt h2
            have s2 := iE a1 (l + 1) g1.2 x a2 h2
            refine Res.Sz.bind fun _ a3 h3 => ?_
            have g3 := pTake_gt h3 g2.2 (by decide)
            refine Res.Sz.bind fun y a4 h4 => ?_
            have g4 := (xE a3 (l + 1) g3.2).gt h4
            have s4 := iE a3 (l + 1) g3.2 y a4 h4
            refine Res.Sz.bind fun _ a5 h5 => ?_
            have g5 := pTake_gt h5 g4.2 (by decide)
            refine Res.Sz.bind fun z a6 h6 => ?_
            have s6 := iE a5 (l + 1) g5.2 z a6 h6
            refine Res.Sz.ok ?_
            rw [tsz, tszs, tszs, tszs, tszs]
            omega
          · refine Res.Sz.bind fun x a1 h1 => ?_
            have g1 := (xS a l ha).gt h1
            have s1 := iS a l ha x a1 h1
            split
            · rename_i hk
              have gn := nx_gt g1.2 hk (by decide)
              refine Res.Sz.bind fun y a2 h2 => ?_
              have s2 := iS _ l gn.2 y a2 h2
              refine Res.Sz.ok ?_
              rw [tsz, tszs, tszs, tszs]
              omega
            · exact Res.Sz.ok (by omega)
    · intro a l ha
      rw [pSum]
      refine Res.Sz.bind fun x a1 h1 => ?_
      have g1 := (xP a l ha).gt h1
      have s1 := iP a l ha x a1 h1
      intro y j hy
      have := iSL x a1 l g1.2 y j hy
      omega
    · intro x a l ha
      rw [pSumL]
      split
      · rename_i hk
        have gn := nx_gt ha hk (by decide)
        refine Res.Sz.bind fun y a2 h2 => ?_
        have g2 := (xP _ l gn.2).gt h2
        have s2 := iP _ l gn.2 y a2 h2
        intro z j hz
        have := iSL _ a2 l g2.2 z j hz
        rw [tsz, tszs, tszs, tszs] at this
        omega
      · split
        · rename_i hk
          have gn := nx_gt ha hk (by decide)
          refine Res.Sz.bind fun y a2 h2 => ?_
          have g2 := (xP _ l gn.2).gt h2
          have s2 := iP _ l gn.2 y a2 h2
          intro z j hz
          have := iSL _ a2 l g2.2 z j hz
          rw [tsz, tszs, tszs, tszs] at this
          omega
        · exact Res.Sz.ok (by omega)
    · intro a l ha
      rw [pProd]
      refine Res.Sz.bind fun x a1 h1 => ?_
      have g1 := (xX a l ha).gt h1
      have s1 := iX a l ha x a1 h1
      intro y j hy
      have := iPL x a1 l g1.2 y j hy
      omega
    · intro x a l ha
      rw [pProdL]
      split
      · rename_i hk
        have gn := nx_gt ha hk (by decide)
        refine Res.Sz.bind fun y a2 h2 => ?_
        have g2 := (xX _ l gn.2).gt h2
        have s2 := iX _ l gn.2 y a2 h2
        intro z j hz
        have := iPL _ a2 l g2.2 z j hz
        rw [tsz, tszs, tszs, tszs] at this
        omega
      · split
        · rename_i hk
          have gn := nx_gt ha hk (by decide)
          refine Res.Sz.bind fun y a2 h2 => ?_
          have g2 := (xX _ l gn.2).gt h2
          have s2 := iX _ l gn.2 y a2 h2
          intro z j hz
          have := iPL _ a2 l g2.2 z j hz
          rw [tsz, tszs, tszs, tszs] at this
          omega
        · exact Res.Sz.ok (by omega)
    · intro a l ha
      rw [pPart]
      split
      · refine Res.Sz.bind fun nm a1 h1 => ?_
        have g1 := pName_gt h1 ha
        split
        · refine Res.Sz.bind fun xs a2 h2 => ?_
          have s2 := iLs a1 l g1.2 xs a2 h2
          refine Res.Sz.ok ?_
          rw [tsz]
          omega
        · refine Res.Sz.ok ?_
          rw [tsz, tszs]
          omega
      · split
        · refine Res.Sz.bind fun _ a1 h1 => ?_
          have g1 := pEnter_gt h1 ha (by decide)
          refine Res.Sz.bind fun x a2 h2 => ?_
          have g2 := (xE a1 (l + 1) g1.2).gt h2
          have s2 := iE a1 (l + 1) g1.2 x a2 h2
          refine Res.Sz.bind fun _ a3 h3 => ?_
          have g3 := pTake_gt h3 g2.2 (by decide)
          exact Res.Sz.ok (by omega)
        · split
          · refine Res.Sz.bind fun _ a1 h1 => ?_
            have g1 := pEnter_gt h1 ha (by decide)
            refine Res.Sz.bind fun x a2 h2 => ?_
            have s2 := iX a1 (l + 1) g1.2 x a2 h2
            refine Res.Sz.ok ?_
            rw [tsz, tszs, tszs]
            omega
          · unfold pNum
            refine Res.Sz.bind fun t a1 h1 => ?_
            have g1 := pTake_gt h1 ha (by decide)
            split
            · exact Res.Sz.bad
            · refine Res.Sz.ok ?_
              rw [tsz, tszs]
              omega
    · intro a l ha
      rw [pList]
      refine Res.Sz.bind fun _ a1 h1 => ?_
      have g1 := pEnter_gt h1 ha (by decide)
      refine Res.Sz.bind fun xs a3 h3 => ?_
      have hk : tszs xs + a1 ≤ a3 ∧ a3 ≤ L.length := by
        split at h3
        · injection h3 with h3 h4
          subst h3 h4
          rw [tszs]
          omega
        · cases hx : pExpr L f a1 (l + 1) with
          | out => rw [hx] at h3; cases h3
          | bad e b => rw [hx] at h3; cases h3
          | ok x a2 =>
            rw [hx] at h3
            have h3 : pArgs L f [x] a2 (l + 1) = .ok xs a3 := h3
            have g2 := (xE a1 (l + 1) g1.2).gt hx
            have s2 := iE a1 (l + 1) g1.2 x a2 hx
            have g3 := (xA [x] a2 (l + 1) g2.2).gt h3
            have s3 := iA [x] a2 (l + 1) g2.2 xs a3 h3
            rw [tszs, tszs] at s3
            omega
      refine Res.Sz.bind fun _ a4 h4 => ?_
      have g4 := pTake_gt h4 hk.2 (by decide)
      exact Res.Sz.ok (by omega)
    · intro xs a l ha
      rw [pArgs]
      split
      · rename_i hk
        have gn := nx_gt ha hk (by decide)
        refine Res.Sz.bind fun x a2 h2 => ?_
        have g2 := (xE _ l gn.2).gt h2
        have s2 := iE _ l gn.2 x a2 h2
        intro ys j hy
        have := iA (xs ++ [x]) a2 l g2.2 ys j hy
        rw [tszs_app, tszs, tszs] at this
        omega
      · exact Res.Sz.ok (by omega)
/-- how many parts a function has, with its names -/
def fsz (g : FnT) : Nat := g.more.length + tsz g.body
theorem pNames_sz (L : List UInt8) : ∀ (f : Nat) (xs : List (List UInt8 × Nat)) (a : Nat), a ≤ L.length → (pNames L f xs a).Sz List.length xs.length a
  | 0, xs, a, _ => by rw [pNames]; exact Res.Sz.out
  | f + 1, xs, a, ha => by
    rw [pNames]
    split
    · rename_i hk
      have gn := nx_gt ha hk (by decide)
      refine Res.Sz.bind fun x a2 h2 => ?_
      have g2 := pName_gt h2 gn.2
      intro ys j hy
      have := pNames_sz L f (xs ++ [x]) a2 g2.2 ys j hy
      rw [List.length_append] at this
      simp at this
      omega
    · exact Res.Sz.ok (by omega)
theorem pBrack_sz (L : List UInt8) (f a : Nat) (ha : a ≤ L.length) : (pBrack L f a).Sz List.length 0 a := by
  unfold pBrack
  refine Res.Sz.bind fun _ a1 h1 => ?_
  have g1 := pTake_gt h1 ha (by decide)
  refine Res.Sz.bind fun xs a3 h3 => ?_
  have hk : xs.length + a1 ≤ a3 ∧ a3 ≤ L.length := by
    split at h3
    · injection h3 with h3 h4
      subst h3 h4
      simp
      omega
    · cases hx : pName L a1 with
      | out => rw [hx] at h3; cases h3
      | bad e b => rw [hx] at h3; cases h3
      | ok x a2 =>
        rw [hx] at h3
        have h3 : pNames L f [x] a2 = .ok xs a3 := h3
        have g2 := pName_gt hx g1.2
        have g3 := (pNames_fx L f [x] a2 g2.2).gt h3
        have s3 := pNames_sz L f [x] a2 g2.2 xs a3 h3
        simp at s3
        omega
  refine Res.Sz.bind fun _ a4 h4 => ?_
  have g4 := pTake_gt h4 hk.2 (by decide)
  exact Res.Sz.ok (by omega)
theorem pFun_sz (L : List UInt8) (f a : Nat) (ha : a ≤ L.length) : (pFun L f a).Sz fsz 0 a := by
  unfold pFun
  refine Res.Sz.bind fun _ a1 h1 => ?_
  have g1 := pTake_gt h1 ha (by decide)
  refine Res.Sz.bind fun nm a2 h2 => ?_
  have g2 := pName_gt h2 g1.2
  refine Res.Sz.bind fun more a3 h3 => ?_
  have g3 := (pBrack_fx L f a2 g2.2).gt h3
  have s3 := pBrack_sz L f a2 g2.2 more a3 h3
  refine Res.Sz.bind fun _ a4 h4 => ?_
  have g4 := pTake_gt h4 g3.2 (by decide)
  refine Res.Sz.bind fun x a5 h5 => ?_
  have s5 := (p_sz L f).1 a4 0 g4.2 x a5 h5
  refine Res.Sz.ok ?_
  unfold fsz
  simp only
  omega
/-- how many parts functions have, with their names -/
def pwgt (fs : List FnT) : Nat := (fs.map fsz).sum
theorem pProg_sz (L : List UInt8) : ∀ (f : Nat) (gs : List FnT) (a : Nat), a ≤ L.length → (pProg L f gs a).Sz pwgt (pwgt gs) a
  | 0, gs, a, _ => by rw [pProg]; exact Res.Sz.out
  | f + 1, gs, a, ha => by
    rw [pProg]
    split
    · exact Res.Sz.ok (by omega)
    · refine Res.Sz.bind fun g a2 h2 => ?_
      have g2 := (pFun_fx L f a ha).gt h2
      have s2 := pFun_sz L f a ha g a2 h2
      intro ys j hy
      have := pProg_sz L f (gs ++ [g]) a2 g2.2 ys j hy
      unfold pwgt at this ⊢
      rw [List.map_append, List.sum_append] at this
      simp at this
      omega
theorem pwgt_mem {fs : List FnT} {g : FnT} (h : g ∈ fs) : fsz g ≤ pwgt fs := by
  induction fs with
  | nil => cases h
  | cons x r ih =>
    unfold pwgt at ih ⊢
    rw [List.map_cons, List.sum_cons]
    rcases List.mem_cons.1 h with rfl | h
    · omega
    · have := ih h
      omega

end Go.Proofs.YtmmgkdcojkmlcaaGreatDoor

namespace Go.Proofs.YtmmgkdcojkmlcaaGreatDoor
open Go.RowKit

theorem shp_lt {k : Nat} {nm : List UInt8} {n m : Nat} (h : shp k nm n m) : k < 12 := by
  rcases h with h | h | h | h | h | h | h <;> omega
theorem tsz_pos : ∀ t : Tr, 1 ≤ tsz t
  | .node _ _ _ _ kids => by rw [tsz]; omega
theorem tszs_len : ∀ ts : List Tr, ts.length ≤ tszs ts
  | [] => by simp [tszs]
  | t :: r => by have := tsz_pos t; have := tszs_len r; rw [tszs, List.length_cons]; omega
theorem tszs_take {ts : List Tr} {j : Nat} {t : Tr} (h : ts[j]? = some t) : tszs (ts.take (j + 1)) = tszs (ts.take j) + tsz t ∧ tszs (ts.take (j + 1)) ≤ tszs ts := by
  have h1 : ts.take (j + 1) = ts.take j ++ [t] := by rw [List.take_add_one, h]; rfl
  refine ⟨by rw [h1, tszs_app]; simp [tszs], ?_⟩
  have h2 := tszs_app (ts.take (j + 1)) (ts.drop (j + 1))
  rw [List.take_append_drop] at h2
  omega

theorem pwgt_take {fs : List FnT} {j : Nat} {g : FnT} (h : fs[j]? = some g) : pwgt (fs.take (j + 1)) = pwgt (fs.take j) + fsz g ∧ pwgt (fs.take (j + 1)) ≤ pwgt fs := by
  have h1 : fs.take (j + 1) = fs.take j ++ [g] := by rw [List.take_add_one, h]; rfl
  refine ⟨by unfold pwgt; rw [h1]; simp, ?_⟩
  have h2 : pwgt fs = pwgt (fs.take (j + 1)) + pwgt (fs.drop (j + 1)) := by
    unfold pwgt
    rw [← List.sum_append, ← List.map_append, List.take_append_drop]
  omega
def smL : List (Nat × List UInt8) → Nat
  | [] => 0
  | x :: r => x.2.length + 4 + smL r
theorem smL_app : ∀ (xs ys : List (Nat × List UInt8)), smL (xs ++ ys) = smL xs + smL ys
  | [], ys => by simp [smL]
  | x :: xs, ys => by rw [List.cons_append, smL, smL, smL_app xs ys]; omega
theorem par_len (h least : Nat) (s : List UInt8) : (par h least s).length ≤ s.length + 2 := by
  unfold par
  split
  · simp
  · omega
theorem jnC_len (ks : List (Nat × List UInt8)) : ∀ j, j ≤ ks.length → (jnC ks j).length ≤ smL (ks.take j)
  | 0, _ => by simp [jnC]
  | j + 1, h => by
    have ih := jnC_len ks j (by omega)
    have hj : ks[j]? = some (ks[j]'(by omega)) := List.getElem?_eq_getElem (by omega)
    have h1 : ks.take (j + 1) = ks.take j ++ [ks[j]'(by omega)] := by rw [List.take_add_one, hj]; rfl
    have h2 : kt ks j 0 = par (ks[j]'(by omega)).1 0 (ks[j]'(by omega)).2 := by unfold kt; rw [hj]
    have h3 := par_len (ks[j]'(by omega)).1 0 (ks[j]'(by omega)).2
    have h4 : (if 0 < j then [44, 32] else ([] : List UInt8)).length ≤ 2 := by split <;> simp
    rw [jnC, List.length_append, List.length_append, h1, smL_app, h2]
    simp only [smL]
    omega
theorem inK_len (it : Nat → List UInt8) (hit : ∀ n, n ≤ 9223372036854775807 → (it n).length ≤ 20) (k : Nat) (nm : List UInt8) (n : Nat) (ks : List (Nat × List UInt8)) (h : shp k nm n ks.length) : (inK it k nm n ks).length ≤ 40 + smL ks := by
  have hp := fun (h least : Nat) (s : List UInt8) => par_len h least s
  unfold inK
  rcases h with ⟨rfl, _, hn, _⟩ | ⟨rfl, hm, _, _⟩ | ⟨rfl, hm, _, _⟩ | ⟨rfl, _, _, hl⟩ | ⟨h4, h8, _, _, hl⟩ | ⟨rfl, hm, _, hl⟩ | ⟨h10, h11, _, _, hl⟩
  · rw [if_pos rfl]; have := hit n hn; omega
  · rw [if_neg (by decide), if_pos rfl]; have := hm.2.1; omega
  · rw [if_neg (by decide), if_neg (by decide), if_pos rfl]
    have h1 := jnC_len ks ks.length (Nat.le_refl _)
    rw [List.take_length] at h1
    have := hm.2.1
    simp
    omega
  · match ks, hl with
    | [a], _ =>
      simp only [if_neg (show ¬ 3 = 0 by decide), if_neg (show ¬ 3 = 1 by decide), if_neg (show ¬ 3 = 2 by decide), if_pos, kt, smL]
      have := hp a.1 4 a.2
      simp
      omega
  · match ks, hl with
    | [a, b], _ =>
      have ho : (opS k).length ≤ 6 := by
        have : ∀ k, k < 9 → (opS k).length ≤ 6 := by decide
        exact this k (by omega)
      rw [if_neg (by omega), if_neg (by omega), if_neg (by omega), if_neg (by omega), if_neg (by omega), if_neg (by omega), if_neg (by omega)]
      split
      · have h1 := hp a.1 2 a.2
        have h2 := hp b.1 2 b.2
        simp [kt, smL]
        omega
      · have h1 := hp a.1 (hld k) a.2
        have h2 := hp b.1 (hld k + 1) b.2
        simp [kt, smL]
        omega
  · match ks, hl with
    | [a, b], _ =>
      simp only [if_neg (show ¬ 9 = 0 by decide), if_neg (show ¬ 9 = 1 by decide), if_neg (show ¬ 9 = 2 by decide), if_neg (show ¬ 9 = 3 by decide), if_pos]
      have h1 := hp a.1 0 a.2
      have h2 := hp b.1 0 b.2
      have := hm.2.1
      simp [kt, smL]
      omega
  · match ks, hl with
    | [a, b, c], _ =>
      rw [if_neg (by omega), if_neg (by omega), if_neg (by omega), if_neg (by omega), if_neg (by omega)]
      split
      · have h1 := hp a.1 2 a.2
        have h2 := hp b.1 2 b.2
        have h3 := hp c.1 0 c.2
        simp [kt, smL]
        omega
      · rw [if_pos (by omega)]
        have h1 := hp a.1 0 a.2
        have h2 := hp b.1 0 b.2
        have h3 := hp c.1 0 c.2
        simp [kt, smL]
        omega
mutual
theorem inT_len (it : Nat → List UInt8) (hit : ∀ n, n ≤ 9223372036854775807 → (it n).length ≤ 20) : ∀ (t : Tr), TW t → (inT it t).length + 4 ≤ 44 * tsz t
  | .node k nm at' n kids, h => by
    obtain ⟨h1, h2⟩ := h
    have h3 := inTs_smL it hit kids h2
    have h4 := inK_len it hit k nm n (inTs it kids) (by rw [inTs_len]; exact h1)
    rw [inT, tsz]
    omega
theorem inTs_smL (it : Nat → List UInt8) (hit : ∀ n, n ≤ 9223372036854775807 → (it n).length ≤ 20) : ∀ (ts : List Tr), TWs ts → smL (inTs it ts) ≤ 44 * tszs ts
  | [], _ => by simp [inTs, smL]
  | t :: r, h => by
    have h1 := inT_len it hit t h.1
    have h2 := inTs_smL it hit r h.2
    rw [inTs, smL, tszs]
    dsimp only
    omega
end

end Go.Proofs.YtmmgkdcojkmlcaaGreatDoor

namespace Go.Proofs.YtmmgkdcojkmlcaaGreatDoor
open Go.RowKit

/-- append([]string{}, l...) -/
theorem wpList_copyW {ops : Array Oper} {rest : List Oper} {o : Oper} {act : Act} {Q : Exit → Act → World → Prop} (w1 : World) (hgd : o.guard = none) (s x : Operand)
    (ho : o.op = .call { callee := .builtin .append, args := #[s, x], argTypes := #[48, 48] })
    (hs : act.eval s = .slice (some ⟨w1.heap.size, 0, none⟩) 0 0) (av : Option Addr) (n cap : Nat) (ss : List (List UInt8)) (hx : act.eval x = .slice av n cap) (hn : n = ss.length)
    (hlen : n ≤ 1000000) (hl : SLs w1 av ss) (hnil : av = none → n = 0 ∧ cap = 0)
    (h : ∀ v' w2, w2.ownsRow w1.heap.size 9 1 v' n (ss.map fun s => .string (bs s)) → Below w1.heap.size w1 w2 → wpList Tryz.prog ops Q rest (act.put o.dst v') w2) :
    wpList Tryz.prog ops Q (o :: rest) act (w1.alloc (.cells #[] 9)) := by
  obtain ⟨i0, hi, hz0, hz1, hz2⟩ := info_parts (show (Tryz.prog.info? 9).map (fun i => (i.zero, i.size, i.bytes)) = some (some (.string ⟨#[]⟩), 1, 16) by kernel_rfl)
  have hown : (w1.alloc (.cells #[] 9)).ownsRow w1.heap.size 9 1 (.slice (some ⟨w1.heap.size, 0, none⟩) 0 0) 0 [] := World.ownsRow_made (size := 1) w1 #[] 0 (Nat.le_refl _) (by unfold maxLen; omega) (by simp)
  have hb0 : Below w1.heap.size w1 (w1.alloc (.cells #[] 9)) := (Below.refl _ _).alloc (Nat.le_refl _) _
  cases av with
  | none =>
    obtain ⟨rfl, rfl⟩ := hnil rfl
    obtain rfl : ss = [] := List.length_eq_zero_iff.1 hn.symm
    refine wpList_append_own_none hgd s x 48 ho w1.heap.size 9 i0 1 Tryz.underlying48 hi _ _ _ hs hown hx ?_
    exact h _ _ hown hb0
  | some ad =>
    refine wpList_append_own _ hgd s x 48 ho w1.heap.size 9 i0 (.string ⟨#[]⟩) 1 16 Tryz.underlying48 hi hz0 hz1 hz2 rfl (by decide) _ _ _ hs hown ad n cap (ss.map fun s => .string (bs s)) hx (by simp [hn]) ?_ ?_ (by unfold maxLen; omega) (by omega) (by simp) ?_
    · intro j u hu
      simp at hu
      obtain ⟨y, hy, rfl⟩ := hu
      obtain ⟨k, h1, h2⟩ := hl j y hy
      cases h1
      have hadd : (⟨k, 0, none⟩ : Addr).add j = ⟨k, j, none⟩ := by unfold Addr.add; split <;> simp_all
      rw [hadd, World.cell?_alloc_lt _ _ ⟨k, j, none⟩ (World.block_lt_of_cell? _ _ h2)]
      exact h2
    · intro u hu; obtain ⟨y, _, rfl⟩ := List.mem_map.1 hu; rfl
    · intro v' w2 hown2 hgrow _
      rw [Nat.zero_add, List.nil_append] at hown2
      exact h v' w2 hown2 (hb0.grown hgrow (by simp) (fun k hk => (hown.lt k hk).1))

theorem XTBs_at {B : Nat → Prop} {w : World} {a : Option Addr} : ∀ {ts : List Tr} {i : Nat}, XTBs B w a ts i → ∀ {j : Nat} {t : Tr}, ts[j]? = some t → ∃ g v, a = some ⟨g, 0, none⟩ ∧ B g ∧ w.cell? ⟨g, i + j, none⟩ = some v ∧ XTB B w t v
  | [], _, _, j, t, h => by simp at h
  | x :: r, i, hx, 0, t, h => by
    simp at h
    subst h
    exact hx.1
  | x :: r, i, hx, j + 1, t, h => by
    have := XTBs_at hx.2 (j := j) (t := t) (by simpa using h)
    rwa [show i + 1 + j = i + (j + 1) by omega] at this
theorem XTB.form {B : Nat → Prop} {w : World} {t : Tr} {v : Value} (h : XTB B w t v) : ∃ b, v = .pointer (some ⟨b, 0, none⟩) := by
  cases t with
  | node k nm at' n kids =>
    obtain ⟨b, a, c, A, h1, _⟩ := h
    exact ⟨b, h1⟩
theorem op_name : ∀ k, k < 12 → (opS k == [110, 97, 109, 101]) = decide (k = 1) := by decide
theorem op_call : ∀ k, k < 12 → (opS k == [99, 97, 108, 108]) = decide (k = 2) := by decide
theorem op_let : ∀ k, k < 12 → (opS k == [108, 101, 116]) = decide (k = 9) := by decide
/-- how looked ends -/
def LkE (o : Option (Nat × Nat)) (w : World) (e : Ending) (w' : World) : Prop := Below w.heap.size w w' ∧ match o with
  | none => e = .returned (.tuple #[.int .i64 0, .int .i64 0])
  | some y => e = .returned (.tuple #[.int .i64 (y.2 : Nat), .int .i64 (y.1 : Nat)]) ∧ y.1 ≠ 0
/-- what looked does with expressions so great -/
def LKC (lo c : Nat) (a : Option Addr) (fs : List FnT) (Xs : List Nat) (n : Nat) : Prop := ∀ (t : Tr), tsz t ≤ n → TW t → ∀ (w : World) (v : Value), RFl lo w a fs Xs → XT lo w t v → ∀ (known : List (List UInt8)) (ak : Option Addr) (kn kc : Nat), kn = known.length → kn + tsz t ≤ 100000 → SLs w ak known.reverse → (ak = none → kn = 0 ∧ kc = 0) →
  Calls Tryz.prog 43 #[.slice a fs.length c, v, .slice ak kn kc] w (LkE (lk (sgF fs) t known) w)

set_option maxRecDepth 100000 in
set_option maxHeartbeats 4000000 in
theorem looked_step (lo c : Nat) (a : Option Addr) (fs : List FnT) (Xs : List Nat) (n : Nat) (hfn : fs.length ≤ 100000) (ih : LKC lo c a fs Xs n) : LKC lo c a fs Xs (n + 1) := by
  intro t htz hTW w v hF hX known ak kn kc hkn hks hS hnil
  have hnot : ∀ (x : Bool) (w : World), (Op.unary .not (.bool x)).run Tryz.prog w = .ok (.bool (!x)) w := fun _ _ => rfl
  cases t with
  | node k nm at' nn kids =>
    obtain ⟨b, ax, cx, A, rfl, hb, hh, hA, hK⟩ := hX
    obtain ⟨hsh, hTs⟩ := hTW
    have hk12 := shp_lt hsh
    have q1 : ((bs (opS k)).toList == [110, 97, 109, 101]) = decide (k = 1) := by rw [bs_list]; exact op_name k hk12
    have q2 : ((bs (opS k)).toList == [99, 97, 108, 108]) = decide (k = 2) := by rw [bs_list]; exact op_call k hk12
    have q9 : ((bs (opS k)).toList == [108, 101, 116]) = decide (k = 9) := by rw [bs_list]; exact op_let k hk12
    have e0 : w.cell? ⟨b, 0, none⟩ = some (.string (bs (opS k))) := by simp [World.cell?, hh]
    have e1 : w.cell? ⟨b, 1, none⟩ = some (.string (bs nm)) := by simp [World.cell?, hh]
    have e3 : w.cell? ⟨b, 3, none⟩ = some (.int .i64 A) := by simp [World.cell?, hh]
    have e4 : w.cell? ⟨b, 4, none⟩ = some (.slice ax kids.length cx) := by simp [World.cell?, hh]
    have HHS := hid (rhas_any kc kn ak known.reverse (bs nm) w hS (by rw [List.length_reverse]; exact hkn) (by omega))
    rw [by_bs] at HHS
    have hmr : decide (nm ∈ known.reverse) = decide (nm ∈ known) := by simp
    rw [hmr] at HHS
    have htz' : tszs kids ≤ n := by rw [tsz] at htz; omega
    have hk4 : kids.length ≤ 4000 := by rcases hsh with h | h | h | h | h | h | h <;> omega
    have HKD : Hid (∀ (i : Nat) (t : Tr), kids[i]? = some t → ∃ g v, ax = some ⟨g, 0, none⟩ ∧ w.cell? ⟨g, i, none⟩ = some v ∧ XTB (fun b => lo ≤ b) w t v) := fun i t ht => by
      obtain ⟨g, v, h1, _, h3, h4⟩ := XTBs_at hK ht
      rw [Nat.zero_add] at h3
      exact ⟨g, v, h1, h3, h4⟩
    have HIH : Hid (∀ (i : Nat) (t : Tr), kids[i]? = some t → ∀ (W : World) (v : Value), Below w.heap.size w W → XTB (fun b => lo ≤ b) w t v → ∀ (known' : List (List UInt8)) (ak' : Option Addr) (kn' kc' : Nat), kn' = known'.length → kn' ≤ kn + 1 → SLs W ak' known'.reverse → (ak' = none → kn' = 0 ∧ kc' = 0) → Calls Tryz.prog 43 #[.slice a fs.length c, v, .slice ak' kn' kc'] W (LkE (lk (sgF fs) t known') W)) := fun i t ht W v hb hx known' ak' kn' kc' h1 h2 h3 h4 => by
      have h5 := kid_lt kids i t ht
      have h6 : tsz (.node k nm at' nn kids) = 1 + tszs kids := by rw [tsz]
      exact ih t (by omega) (hTs.at ht) W v (hF.below hb) (XT.below hx hb) known' ak' kn' kc' h1 (by omega) h3 h4
    have hlk : lk (sgF fs) (.node k nm at' nn kids) known = if onf (sgF fs) k nm kids.length known ≠ 0 then some (onf (sgF fs) k nm kids.length known, at') else lks (sgF fs) k nm known kids 0 := by rw [lk]
    obtain ⟨res, hres⟩ : ∃ res, res = lk (sgF fs) (.node k nm at' nn kids) known := ⟨_, rfl⟩
    rw [← hres]
    rw [← hres] at hlk
    have HLK := hid hlk
    have HA := hid hA
    have HSS := hid hS
    have HNIL := hid hnil
    have HKN := hid (And.intro hkn hks)
    have HFF := hid hF
    have HWD : Hid (∀ e w', LkE res w e w' → LkE res w e w') := fun _ _ h => h
    obtain ⟨m, hm⟩ : ∃ m, m = kids.length := ⟨_, rfl⟩
    obtain ⟨nf, hnf⟩ : ∃ nf, nf = fs.length := ⟨_, rfl⟩
    have HM := hid hm
    have HNF := hid hnf
    have HBB := hid hb
    have HSH := hid hsh
    rw [← hm] at HSH
    rw [← hm] at e4 hk4
    rw [← hnf] at hfn HIH ⊢
    have HBN := hid (bs_list nm)
    generalize bs (opS k) = op at *
    generalize hbn : bs nm = bn at *
    clear ih hF hS hnil hlk hA hsh hTs hh hK hres hm hnf htz htz' hmr hkn hks hb
    by_cases h9 : k = 9
    · rw [decide_eq_false (by omega)] at q1 q2
      rw [decide_eq_true h9] at q9
      rw [HA.out (by omega)] at e3
      have hm2 : m = 2 := by rcases HSH.out with h | h | h | h | h | h | h <;> omega
      obtain ⟨t0, ht0⟩ : ∃ t, kids[0]? = some t := ⟨_, List.getElem?_eq_getElem (by have := HM.out; omega)⟩
      obtain ⟨t1, ht1⟩ : ∃ t, kids[1]? = some t := ⟨_, List.getElem?_eq_getElem (by have := HM.out; omega)⟩
      have hkids : kids = [t0, t1] := by
        have hl : kids.length = 2 := by have := HM.out; omega
        match kids, hl, ht0, ht1 with
        | [x, y], _, h0, h1 =>
          simp at h0 h1
          rw [h0, h1]
      obtain ⟨g, v0, hax, hc0, hx0⟩ := HKD.out 0 t0 ht0
      obtain ⟨g', v1, hax', hc1, hx1⟩ := HKD.out 1 t1 ht1
      obtain rfl : g' = g := by rw [hax] at hax'; injection hax' with h; injection h with h; exact h.symm
      obtain ⟨b0, rfl⟩ := hx0.form
      obtain ⟨b1, rfl⟩ := hx1.form
      have HC0 := hid (HIH.out 0 t0 ht0 w _ (Below.refl _ _) hx0 known ak kn kc HKN.out.1 (by omega) HSS.out HNIL.out)
      have HC1 := hid (fun W hb => HIH.out 1 t1 ht1 W _ hb hx1 (nm :: known))
      have HON : Hid (res = if nm ∈ known then some (4, at') else match lk (sgF fs) t0 known with
          | some e => some e
          | none => lk (sgF fs) t1 (nm :: known)) := by
        unfold Hid
        rw [HLK.out, hkids]
        unfold onf
        by_cases hin : nm ∈ known
        · rw [if_pos h9, if_pos hin, if_pos (by decide), if_pos hin]
        · rw [if_pos h9, if_neg hin, if_neg (by decide), if_neg hin]
          rw [lks, if_neg (by omega)]
          cases lk (sgF fs) t0 known with
          | some e => rfl
          | none =>
            show lks (sgF fs) k nm known [t1] 1 = _
            rw [lks, if_pos ⟨h9, rfl⟩]
            cases lk (sgF fs) t1 (nm :: known) with
            | some e => rfl
            | none => rfl
      subst hax hm2
      clear HLK ht0 ht1 hx0 hx1 hkids hax'
      by_cases hin : nm ∈ known
      · rw [decide_eq_true hin] at HHS
        have HE : Hid (LkE res w (.returned (.tuple #[.int .i64 (at' : Int), .int .i64 4])) w) := ⟨Below.refl _ _, by rw [HON.out, if_pos hin]; exact ⟨rfl, by show (4 : Nat) ≠ 0; decide⟩⟩
        clear hin
        go_enter Tryz.func43, Tryz.ntmps43
        go_wp2_with fail
        refine HHS.out.mono ?_
        rintro e w1 ⟨hw1, rfl⟩
        have hw2 := hw1.symm
        subst hw2
        go_wp2_with fail
        go_ret2
        exact HWD.out _ _ HE.out
      · rw [decide_eq_false hin] at HHS
        have hon := HON.out
        rw [if_neg hin] at hon
        have HO2 := hid hon
        clear hin hon HON
        go_enter Tryz.func43, Tryz.ntmps43
        go_wp2_with fail
        refine HHS.out.mono ?_
        rintro e w1 ⟨hw1, rfl⟩
        have hw2 := hw1.symm
        subst hw2
        go_wp2_with fail
        refine HC0.out.mono ?_
        rintro e w3 ⟨hb3, he⟩
        have HB3 := hid hb3
        cases ho : lk (sgF fs) t0 known with
        | some y =>
          rw [ho] at he
          obtain ⟨he, hy⟩ := he
          subst he
          have hl3 := HO2.out
          rw [ho] at hl3
          have hl3 : res = some y := hl3
          have q0 : ((y.1 : Int) != 0) = true := by simp; omega
          have HE : Hid (LkE res w (.returned (.tuple #[.int .i64 (y.2 : Nat), .int .i64 (y.1 : Nat)])) w3) := ⟨HB3.out, by rw [hl3]; exact ⟨rfl, hy⟩⟩
          generalize ((y.1 : Nat) : Int) = y1 at *
          generalize ((y.2 : Nat) : Int) = y2 at *
          clear hl3 hb3 ho HO2 HC0 hy
          go_wp2_with fail
          go_ret2
          exact HWD.out _ _ HE.out
        | none =>
          rw [ho] at he
          have he : e = .returned (.tuple #[.int .i64 0, .int .i64 0]) := he
          subst he
          have hl3 := HO2.out
          rw [ho] at hl3
          have HL3 : Hid (res = lk (sgF fs) t1 (nm :: known)) := hl3
          have g1 := (hb3.cell (p := ⟨b, 1, none⟩) (World.block_lt_of_cell? _ _ e1)).trans e1
          have HS3 := hid (HSS.out.below hb3)
          clear hl3 hb3 ho HO2 HC0
          obtain ⟨iS, hi, hz0, hz1, hz2⟩ := info_parts (show (Tryz.prog.info? 9).map (fun i => (i.zero, i.size, i.bytes)) = some (some (.string ⟨#[]⟩), 1, 16) by kernel_rfl)
          have HIS := hid (And.intro hi (And.intro hz0 (And.intro hz1 hz2)))
          clear hi hz0 hz1 hz2
          have hk5 : kn ≤ 100000 := by have := HKN.out; omega
          have HBG : Hid (∀ (w4 w5 : World) (v4 : Value) (n4 : Nat) (xs4 : List Value) (o : Obj), Below w3.heap.size w3 w4 → w4.ownsRow w3.heap.size 9 1 v4 n4 xs4 → (w4.alloc o).grownBy w5 v4.ownBlock → Below w3.heap.size w3 w5) := fun w4 w5 v4 n4 xs4 o h1 h2 h3 => (h1.alloc h1.size o).grown h3 (by have := h1.size; simp; omega) (fun k hk => (h2.lt k hk).1)
          have HCC : Hid (∀ w5, Below w3.heap.size w3 w5 → w5.cell? ⟨b, 4, none⟩ = some (.slice (some ⟨g', 0, none⟩) 2 cx) ∧ w5.cell? ⟨g', 1, none⟩ = some (.pointer (some ⟨b1, 0, none⟩))) := fun w5 h => ⟨(h.cell (p := ⟨b, 4, none⟩) (Nat.lt_of_lt_of_le (World.block_lt_of_cell? _ _ e4) HB3.out.size)).trans ((HB3.out.cell (p := ⟨b, 4, none⟩) (World.block_lt_of_cell? _ _ e4)).trans e4), (h.cell (p := ⟨g', 1, none⟩) (Nat.lt_of_lt_of_le (World.block_lt_of_cell? _ _ hc1) HB3.out.size)).trans ((HB3.out.cell (p := ⟨g', 1, none⟩) (World.block_lt_of_cell? _ _ hc1)).trans hc1)⟩
          go_wp2_with (first
            | (at_builtin; refine wpList_copyW w3 rfl _ _ rfl rfl ak kn kc known.reverse rfl (by rw [List.length_reverse]; exact HKN.out.1) (by omega) HS3.out HNIL.out ?_; intro v' w4 hown4 hb4; obtain ⟨a4, c4, hv'⟩ := ownsRow_form hown4; subst hv'; have i1 := (hb4.cell (p := ⟨b, 1, none⟩) (World.block_lt_of_cell? _ _ g1)).trans g1)
            | (at_builtin; refine wpList_append_own_at _ rfl _ _ 48 rfl w3.heap.size 9 iS (.string ⟨#[]⟩) 1 16 Tryz.underlying48 HIS.out.1 HIS.out.2.1 HIS.out.2.2.1 HIS.out.2.2.2 rfl (by decide) (.slice a4 kn c4) kn (known.reverse.map fun s => .string (bs s)) rfl (hown4.alloc _) ⟨w4.heap.size, 0, none⟩ 1 1 [.string bn] rfl rfl (cell_one_new _ _ _) (by simp [Value.oneCell']) (by unfold maxLen; omega) (by omega) (by have := hb4.size; simp; omega) ?_; intro v5 w5 hown5 hgrow5 _ hwhere5; obtain ⟨a5, c5, hv5⟩ := ownsRow_form hown5; subst hv5; have hb5 := HBG.out w4 w5 _ _ _ _ hb4 hown4 hgrow5; obtain ⟨j4, jc⟩ := HCC.out w5 hb5))
          have HB5 := hid (HB3.out.trans (hb5.mono HB3.out.size))
          have hS5 : SLs w5 a5 (nm :: known).reverse := fun i s hs => by
            rw [List.reverse_cons] at hs
            obtain ⟨k5, k1, _, k3⟩ := ownsRow_at hown5 i (.string (bs s)) (by
              rw [← hbn]
              have : (known.reverse.map (fun s => Value.string (bs s)) ++ [Value.string (bs nm)]) = (known.reverse ++ [nm]).map (fun s => Value.string (bs s)) := by simp
              rw [this, List.getElem?_map, hs]
              rfl)
            exact ⟨k5, k1, k3⟩
          have hn5 : a5 = none → kn + 1 = 0 ∧ c5 = 0 := fun h => by
            rcases hown5.2 with ⟨e5, h0⟩ | ⟨_, _, _, e5, _⟩
            · omega
            · injection e5 with e5; rw [h] at e5; cases e5
          have HC5 := hid (HC1.out w5 HB5.out a5 (kn + 1) c5 (by rw [List.length_cons, ← HKN.out.1]) (Nat.le_refl _) hS5 hn5)
          have HE5 : Hid (∀ e w', LkE (lk (sgF fs) t1 (nm :: known)) w5 e w' → LkE res w e w') := fun e w' h => by
            rw [HL3.out]
            exact ⟨HB5.out.trans (h.1.mono HB5.out.size), h.2⟩
          clear hown5 hgrow5 hwhere5 hb5 hS5 hn5 hown4 hb4 i1 j4 jc
          refine HC5.out.mono ?_
          intro e w6 he
          have hsh : ∃ x y : Int, e = .returned (.tuple #[.int .i64 x, .int .i64 y]) := by
            have h2 := he.2
            cases ho : lk (sgF fs) t1 (nm :: known) with
            | none => rw [ho] at h2; exact ⟨_, _, h2⟩
            | some y => rw [ho] at h2; exact ⟨_, _, h2.1⟩
          obtain ⟨x, y, rfl⟩ := hsh
          have HE := hid (HE5.out _ _ he)
          clear he
          go_wp2_with fail
          go_ret2
          exact HWD.out _ _ HE.out
    · rw [decide_eq_false h9] at q9
      have hlks : Hid (∀ i, lks (sgF fs) k nm known kids i = lks (sgF fs) k nm known kids i) := fun _ => rfl
      clear hlks
      by_cases h1 : k = 1
      case' pos =>
        rw [decide_eq_true h1] at q1
        rw [decide_eq_false (by omega)] at q2
        by_cases hin : nm ∈ known
        case' pos =>
          rw [decide_eq_true hin] at HHS
          have HON : Hid (res = lks (sgF fs) k nm known kids 0) := by
            unfold Hid
            rw [HLK.out]
            unfold onf
            rw [if_neg (by rw [if_neg h9, if_pos h1, if_pos hin]; decide)]
          have HBW : Hid (Below w.heap.size w w) := Below.refl _ _
          clear hin HLK
          go_enter Tryz.func43, Tryz.ntmps43
          go_wp2_with fail
          refine HHS.out.mono ?_
          rintro e w1 ⟨hw1, rfl⟩
          have hw2 := hw1.symm
          subst hw2
          go_wp2_with fail
        case' neg =>
          rw [decide_eq_false hin] at HHS
          have HON : Hid (res = some (6, at')) := by
            unfold Hid
            rw [HLK.out]
            unfold onf
            rw [if_pos (by rw [if_neg h9, if_pos h1, if_neg hin]; decide), if_neg h9, if_pos h1, if_neg hin]
          rw [HA.out (by omega)] at e3
          have HE : Hid (LkE res w (.returned (.tuple #[.int .i64 (at' : Int), .int .i64 6])) w) := ⟨Below.refl _ _, by rw [HON.out]; exact ⟨rfl, by show (6 : Nat) ≠ 0; decide⟩⟩
          go_enter Tryz.func43, Tryz.ntmps43
          go_wp2_with fail
          refine HHS.out.mono ?_
          rintro e w1 ⟨hw1, rfl⟩
          have hw2 := hw1.symm
          subst hw2
          go_wp2_with fail
          go_ret2
          exact HWD.out _ _ HE.out
      case' neg =>
        rw [decide_eq_false h1] at q1
        by_cases h2 : k = 2
        case' pos =>
          rw [decide_eq_true h2] at q2
          have HSG : Hid (res = if sgF fs nm m then lks (sgF fs) k nm known kids 0 else some (6, at')) := by
            unfold Hid
            rw [HLK.out]
            unfold onf
            rw [if_neg h9, if_neg h1, if_pos h2, ← HM.out]
            cases sgF fs nm m <;> simp
          rw [HA.out (by omega)] at e3
          clear HLK
          go_enter Tryz.func43, Tryz.ntmps43
          go_wp2_with fail
          go_loopw [9, 10] (fun isv iv wr => ∃ (j : Nat), j ≤ nf ∧ iv = .int .i64 j ∧ isv = .bool ((fs.take j).any fun g => g.name == nm && g.more.length == m) ∧ Hid (Below w.heap.size w wr)) (fun _ iv _ => nf - (intOf iv).toNat)
          case' atStart => exact ⟨0, Nat.zero_le _, rfl, by simp, Below.refl _ _⟩
          case' round =>
            obtain ⟨j, hj, rfl, rfl, hbw⟩ := hrel
            by_cases hjn : j < nf
            case' pos =>
              have hj2 : (j : Int) < (nf : Int) := by omega
              have hwr : IntKind.i64.wrap ((j : Int) + 1) = (j : Int) + 1 := by rw [IntKind.wrap_i64]; omega
              obtain ⟨g, X, kb, hg, hX, hakb, hc, hR⟩ := (HFF.out.below hbw.out).get (i := j) (by have := HNF.out; omega)
              obtain ⟨am, cm, aw, cw, pb, _, hXb, _⟩ := hR
              have f0 : wr.cell? ⟨X, 0, none⟩ = some (.string (bs g.name)) := by simp [World.cell?, hXb]
              have f2 : wr.cell? ⟨X, 2, none⟩ = some (.slice am g.more.length cm) := by simp [World.cell?, hXb]
              have g1 := (hbw.out.cell (p := ⟨b, 1, none⟩) (World.block_lt_of_cell? _ _ e1)).trans e1
              have g4 := (hbw.out.cell (p := ⟨b, 4, none⟩) (World.block_lt_of_cell? _ _ e4)).trans e4
              have hnx : ((fs.take (j + 1)).any fun g => g.name == nm && g.more.length == m) = (((fs.take j).any fun g => g.name == nm && g.more.length == m) || (g.name == nm && g.more.length == m)) := by
                rw [List.take_add_one, hg, List.any_append]
                simp
              have HNX := hid hnx
              have t1 : ((bs g.name).toList == bn.toList) = (g.name == nm) := by rw [bs_list, HBN.out]
              have t2 : ((g.more.length : Int) == (m : Int)) = (g.more.length == m) := by
                rw [Bool.eq_iff_iff]
                simp
                omega
              subst hakb
              generalize ((fs.take j).any fun g => g.name == nm && g.more.length == m) = B at *
              generalize (g.name == nm) = b1 at *
              generalize hgm : (g.more.length == m) = b2 at *
              generalize g.more.length = gl at *
              generalize bs g.name = gn at *
              clear hg hX hXb hnx hgm
              cases B
              all_goals cases b1
              all_goals cases b2
              all_goals
                go_wp2_with fail
                go_quiet (fail)
                go_wp2_with fail
                go_roundw
                case rel => exact ⟨j + 1, by omega, by go_num, by rw [HNX.out]; rfl, hbw.out.trans (belNS wr nq |>.mono hbw.out.size)⟩
                case measure => simp [intOf]; omega
            case' neg =>
              obtain rfl : j = nf := by omega
              have hj2 : ¬ (j : Int) < (j : Int) := by omega
              have hany : ((fs.take j).any fun g => g.name == nm && g.more.length == m) = sgF fs nm m := by rw [HNF.out, List.take_length]; rfl
              rw [hany]
              clear hany
              have g3 := (hbw.out.cell (p := ⟨b, 3, none⟩) (World.block_lt_of_cell? _ _ e3)).trans e3
              cases hsg : sgF fs nm m
              case' false =>
                have HE : Hid (LkE res w (.returned (.tuple #[.int .i64 (at' : Int), .int .i64 6])) wr) := ⟨hbw.out, by rw [HSG.out, hsg]; exact ⟨rfl, by show (6 : Nat) ≠ 0; decide⟩⟩
                clear hsg
                go_wp2_with fail
                go_ret2
                exact HWD.out _ _ HE.out
              case' true =>
                have HON : Hid (res = lks (sgF fs) k nm known kids 0) := by unfold Hid; rw [HSG.out, hsg]; rfl
                clear hsg HSG
                go_wp2_with fail
                have HBW := hbw
                clear hbw g3
                obtain ⟨wq, hwq⟩ : ∃ wq, wq = wr := ⟨_, rfl⟩
                rw [← hwq]
                rw [← hwq] at HBW
                clear hwq
        case' neg =>
          rw [decide_eq_false h2] at q2
          have HON : Hid (res = lks (sgF fs) k nm known kids 0) := by
            unfold Hid
            rw [HLK.out]
            unfold onf
            rw [if_neg (by rw [if_neg h9, if_neg h1, if_neg h2]; decide)]
          have HBW : Hid (Below w.heap.size w w) := Below.refl _ _
          clear HLK
          go_enter Tryz.func43, Tryz.ntmps43
          go_wp2_with fail
      all_goals
        go_loopw [15] (fun iv wr => ∃ (i : Nat), i ≤ m ∧ iv = .int .i64 i ∧ Hid (res = lks (sgF fs) k nm known (kids.drop i) i) ∧ Hid (Below w.heap.size w wr)) (fun iv _ => m - (intOf iv).toNat)
        case atStart => exact ⟨0, Nat.zero_le _, rfl, HON, HBW⟩
        case round =>
          obtain ⟨i, hi, rfl, hlk, hbw⟩ := hrel
          have g4 := (hbw.out.cell (p := ⟨b, 4, none⟩) (World.block_lt_of_cell? _ _ e4)).trans e4
          by_cases him : i < m
          · have hi2 : (i : Int) < (m : Int) := by omega
            have hwr : IntKind.i64.wrap ((i : Int) + 1) = (i : Int) + 1 := by rw [IntKind.wrap_i64]; omega
            obtain ⟨t, ht⟩ : ∃ t, kids[i]? = some t := ⟨_, List.getElem?_eq_getElem (by have := HM.out; omega)⟩
            obtain ⟨g, v, hax, hc, hx⟩ := HKD.out i t ht
            obtain ⟨vb, rfl⟩ := hx.form
            have hcw := (hbw.out.cell (p := ⟨g, i, none⟩) (World.block_lt_of_cell? _ _ hc)).trans hc
            have HC := hid (HIH.out i t ht wr _ hbw.out hx known ak kn kc HKN.out.1 (by omega) (HSS.out.below hbw.out) HNIL.out)
            have hlk2 := hlk.out
            rw [List.drop_eq_getElem_cons (by have := HM.out; omega), show kids[i]'(by have := HM.out; omega) = t from Option.some.inj ((List.getElem?_eq_getElem _).symm.trans ht), lks, if_neg (by omega)] at hlk2
            have HLK2 := hid hlk2
            subst hax
            clear hlk hlk2 ht hc hx
            go_wp2_with fail
            refine HC.out.mono ?_
            rintro e w3 ⟨hb3, he⟩
            have HB3 := hid (hbw.out.trans (hb3.mono hbw.out.size))
            cases ho : lk (sgF fs) t known with
            | none =>
              rw [ho] at he
              have he : e = .returned (.tuple #[.int .i64 0, .int .i64 0]) := he
              subst he
              have hl3 := HLK2.out
              rw [ho] at hl3
              have HL3 : Hid (res = lks (sgF fs) k nm known (kids.drop (i + 1)) (i + 1)) := hl3
              clear hl3 hb3 ho HLK2 HC
              go_wp2_with fail
              go_roundw
              case rel => exact ⟨i + 1, by omega, by go_num, HL3, HB3⟩
              case measure => simp [intOf]; omega
            | some y =>
              rw [ho] at he
              obtain ⟨he, hy⟩ := he
              subst he
              have hl3 := HLK2.out
              rw [ho] at hl3
              have hl3 : res = some y := hl3
              have q0 : ((y.1 : Int) != 0) = true := by simp; omega
              have HE : Hid (LkE res w (.returned (.tuple #[.int .i64 (y.2 : Nat), .int .i64 (y.1 : Nat)])) w3) := ⟨HB3.out, by rw [hl3]; exact ⟨rfl, hy⟩⟩
              generalize ((y.1 : Nat) : Int) = y1 at *
              generalize ((y.2 : Nat) : Int) = y2 at *
              clear hl3 hb3 ho HLK2 HC hy
              go_wp2_with fail
              go_ret2
              exact HWD.out _ _ HE.out
          · obtain rfl : i = m := by omega
            have hi2 : ¬ (i : Int) < (i : Int) := by omega
            have hl3 := hlk.out
            rw [HM.out, List.drop_length, lks] at hl3
            have HE : Hid (LkE res w (.returned (.tuple #[.int .i64 0, .int .i64 0])) wr) := ⟨hbw.out, by rw [hl3]⟩
            clear hl3 hlk
            go_wp2_with fail
            go_ret2
            exact HWD.out _ _ HE.out

end Go.Proofs.YtmmgkdcojkmlcaaGreatDoor
