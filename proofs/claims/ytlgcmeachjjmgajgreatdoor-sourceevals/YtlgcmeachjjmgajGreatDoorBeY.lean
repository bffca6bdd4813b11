/- Programs as text, plainly: another fuel. The reference of programs as text: functions by name, names in a list. -/
import Derived.Test.YtlgcmeachjjmgajGreatDoorBeX
import Derived.Test.YtlgcmeachjjmgajGreatDoorRgP
namespace Go.Proofs.YtlgcmeachjjmgajGreatDoor

/-- with another fuel: the same, where it is enough, and too long, where it isn't -/
def FuR {α : Type} (f2 : Nat) (r1 r2 : ER α) : Prop := ∀ x k, r1 = .val x k → (k ≤ f2 → r2 = .val x k) ∧ (f2 < k → r2 = .stop 8)
theorem FuR.bind {α β : Type} {f2 : Nat} {r1 r2 : ER α} {g1 g2 : α → Nat → ER β} (h : FuR f2 r1 r2) (hm : ∀ x k y j, r1 = .val x k → g1 x k = .val y j → k ≤ j) (hg : ∀ x k, r1 = .val x k → k ≤ f2 → FuR f2 (g1 x k) (g2 x k)) : FuR f2 (r1.bind g1) (r2.bind g2) := by
  intro y j hv
  obtain ⟨x, k, e1, e2⟩ := ER.bind_val hv
  obtain ⟨h1, h2⟩ := h x k e1
  have hkj := hm x k y j e1 e2
  by_cases hk : k ≤ f2
  · rw [h1 hk]
    exact hg x k e1 hk y j e2
  · rw [h2 (by omega)]
    exact ⟨fun h => by omega, fun _ => rfl⟩
theorem FuR.val {α : Type} {f2 : Nat} (x : α) {k : Nat} (hk : k ≤ f2) : FuR f2 (.val x k) (.val x k) := by
  intro y j h
  injection h with h1 h2
  subst h1 h2
  exact ⟨fun _ => rfl, fun h => by omega⟩
theorem FuR.of_stop {α : Type} {f2 er : Nat} {r2 : ER α} : FuR f2 (.stop er) r2 := fun _ _ h => (nomatch h)
theorem FuR.of_out {α : Type} {f2 : Nat} {r2 : ER α} : FuR f2 .out r2 := fun _ _ h => (nomatch h)
theorem evA_fuel (p : Nat) (fs : List FnT) (f1 f2 : Nat) (h3 : 3 ≤ p) (R : Nat) (sc : List (List UInt8 × Int)) (hs : ScB p sc) (ih : ∀ (t : Tr) (k : Nat), k ≤ f1 → k ≤ f2 → FuR f2 (evl p fs f1 R t sc k) (evl p fs f2 R t sc k)) : ∀ (more : List (List UInt8 × Nat)) (ts : List Tr) (own : List (List UInt8 × Int)) (k : Nat), ScB p own → k ≤ f1 → k ≤ f2 → FuR f2 (evA (fun t k => evl p fs f1 R t sc k) more ts own k) (evA (fun t k => evl p fs f2 R t sc k) more ts own k)
  | [], ts, own, k, _, _, hk2 => by rw [evA, evA]; exact FuR.val _ hk2
  | m :: r, [], own, k, _, _, _ => by rw [evA]; exact FuR.of_out
  | m :: r, t :: ts, own, k, ho, hk1, hk2 => by
    rw [evA, evA]
    have hcons : ∀ v k2, evl p fs f1 R t sc k = .val v k2 → ScB p ((m.1, v) :: own) ∧ k2 ≤ f1 := fun v k2 h => by
      have hb := evl_bd p fs f1 h3 R t sc k v k2 hs hk1 h
      refine ⟨fun y hy => ?_, hb.2.2⟩
      rcases List.mem_cons.1 hy with rfl | hy
      · exact hb.1
      · exact ho y hy
    refine (ih t k hk1 hk2).bind (fun v k2 ys j e1 e2 => ?_) (fun v k2 e1 hk => ?_)
    · have hc := hcons v k2 e1
      exact (evA_bd p fs f1 h3 R sc hs r ts _ k2 ys j hc.1 hc.2 e2).2.1
    · have hc := hcons v k2 e1
      exact evA_fuel p fs f1 f2 h3 R sc hs ih r ts _ k2 hc.1 hc.2 hk
theorem evl_fuel (p : Nat) (fs : List FnT) (f1 f2 : Nat) (h3 : 3 ≤ p) : ∀ (R : Nat) (t : Tr) (sc : List (List UInt8 × Int)) (k : Nat), ScB p sc → k ≤ f1 → k ≤ f2 → FuR f2 (evl p fs f1 R t sc k) (evl p fs f2 R t sc k)
  | 0, t, sc, k, _, _, _ => by rw [evl]; exact FuR.of_out
  | R + 1, .node kd nm at' n kids, sc, k, hs, hk1, hk2 => by
    have ih := evl_fuel p fs f1 f2 h3 R
    have hbd : ∀ (t : Tr) (sc : List (List UInt8 × Int)) (k : Nat) (x : Int) (j : Nat), ScB p sc → k ≤ f1 → evl p fs f1 R t sc k = .val x j → (0 ≤ x ∧ x < (p : Int)) ∧ k < j ∧ j ≤ f1 := fun t sc k x j h h' h'' => evl_bd p fs f1 h3 R t sc k x j h h' h''
    by_cases e2 : k = f2
    · intro x j h
      have hb := evl_bd p fs f1 h3 (R + 1) _ sc k x j hs hk1 h
      refine ⟨fun h => by omega, fun _ => ?_⟩
      unfold evl
      rw [if_pos e2]
    · by_cases e1 : k = f1
      · unfold evl
        rw [if_pos e1]
        exact FuR.of_stop
      · have l1 : k + 1 ≤ f1 := by omega
        have l2 : k + 1 ≤ f2 := by omega
        unfold evl
        rw [if_neg e1, if_neg e2]
        split
        · exact FuR.val _ l2
        · split
          · split
            · exact FuR.val _ l2
            · exact FuR.of_out
          · split
            · split
              · rename_i g _
                refine (evA_fuel p fs f1 f2 h3 R sc hs (fun t k h h' => ih t sc k hs h h') g.more kids [] (k + 1) (by intro y hy; cases hy) l1 l2).bind (fun own k2 y j e3 e4 => ?_) (fun own k2 e3 hk => ?_)
                · have hb := evA_bd p fs f1 h3 R sc hs g.more kids [] (k + 1) own k2 (by intro y hy; cases hy) l1 e3
                  exact Nat.le_of_lt (hbd _ own k2 y j hb.1 hb.2.2 e4).2.1
                · have hb := evA_bd p fs f1 h3 R sc hs g.more kids [] (k + 1) own k2 (by intro y hy; cases hy) l1 e3
                  exact ih _ own k2 hb.1 hb.2.2 hk
              · exact FuR.of_out
            · split
              · split
                · refine (ih _ sc _ hs l1 l2).bind (fun x k2 y j _ e4 => ?_) (fun x k2 _ hk => FuR.val _ hk)
                  injection e4 with _ e4
                  exact Nat.le_of_eq e4
                · exact FuR.of_out
              · split
                · refine (ih _ sc _ hs l1 l2).bind (fun x k2 y j e3 e4 => ?_) (fun x k2 e3 hk => ?_)
                  · have hb := hbd _ sc _ x k2 hs l1 e3
                    exact Nat.le_of_lt (hbd _ ((nm, x) :: sc) k2 y j (fun z hz => by
                      rcases List.mem_cons.1 hz with rfl | hz
                      · exact hb.1
                      · exact hs z hz) hb.2.2 e4).2.1
                  · have hb := hbd _ sc _ x k2 hs l1 e3
                    exact ih _ ((nm, x) :: sc) k2 (fun z hz => by
                      rcases List.mem_cons.1 hz with rfl | hz
                      · exact hb.1
                      · exact hs z hz) hb.2.2 hk
                · refine (ih _ sc _ hs l1 l2).bind (fun x k2 y j e3 e4 => ?_) (fun x k2 e3 hk => ?_)
                  · have hb := hbd _ sc _ x k2 hs l1 e3
                    obtain ⟨v, k3, e5, e6⟩ := ER.bind_val e4
                    have hb2 := hbd _ sc _ v k3 hs hb.2.2 e5
                    have := (rknS_bd h3 e6).2
                    omega
                  · have hb := hbd _ sc _ x k2 hs l1 e3
                    refine (ih _ sc _ hs hb.2.2 hk).bind (fun v k3 y j _ e6 => Nat.le_of_eq (rknS_bd h3 e6).2.symm) (fun v k3 _ hk3 => ?_)
                    intro y j h
                    have hj := (rknS_bd h3 h).2
                    exact ⟨fun _ => h, fun h' => by omega⟩
              · split
                · refine (ih _ sc _ hs l1 l2).bind (fun x k2 y j e3 e4 => ?_) (fun x k2 e3 hk => ?_)
                  · have hb := hbd _ sc _ x k2 hs l1 e3
                    obtain ⟨v, k3, e5, e6⟩ := ER.bind_val e4
                    have hb2 := hbd _ sc _ v k3 hs hb.2.2 e5
                    split at e6
                    · have := (hbd _ sc _ y j hs hb2.2.2 e6).2.1
                      omega
                    · cases e6
                  · have hb := hbd _ sc _ x k2 hs l1 e3
                    refine (ih _ sc _ hs hb.2.2 hk).bind (fun v k3 y j e5 e6 => ?_) (fun v k3 e5 hk3 => ?_)
                    · have hb2 := hbd _ sc _ v k3 hs hb.2.2 e5
                      split at e6
                      · exact Nat.le_of_lt (hbd _ sc _ y j hs hb2.2.2 e6).2.1
                      · cases e6
                    · have hb2 := hbd _ sc _ v k3 hs hb.2.2 e5
                      split
                      · exact ih _ sc _ hs hb2.2.2 hk3
                      · exact FuR.of_stop
                · split
                  · refine (ih _ sc _ hs l1 l2).bind (fun x k2 y j e3 e4 => ?_) (fun x k2 e3 hk => ?_)
                    · have hb := hbd _ sc _ x k2 hs l1 e3
                      split at e4
                      · exact Nat.le_of_lt (hbd _ sc _ y j hs hb.2.2 e4).2.1
                      · exact Nat.le_of_lt (hbd _ sc _ y j hs hb.2.2 e4).2.1
                    · have hb := hbd _ sc _ x k2 hs l1 e3
                      split
                      · exact ih _ sc _ hs hb.2.2 hk
                      · exact ih _ sc _ hs hb.2.2 hk
                  · exact FuR.of_out
              · exact FuR.of_out

end Go.Proofs.YtlgcmeachjjmgajGreatDoor

namespace Go.Proofs.YtlgcmeachjjmgajGreatDoor
open Go.RowKit

/-- functions of the reference in a row -/
structure RFl (lo : Nat) (w : World) (a : Option Addr) (fs : List FnT) (Xs : List Nat) : Prop where
  len : Xs.length = fs.length
  at' : ∀ i g X, fs[i]? = some g → Xs[i]? = some X → (∃ k, a = some ⟨k, 0, none⟩ ∧ lo ≤ k ∧ w.cell? ⟨k, i, none⟩ = some (.pointer (some ⟨X, 0, none⟩))) ∧ RFn lo w g X
theorem RFl.keep {lo lo' : Nat} {w w' : World} {a : Option Addr} {fs : List FnT} {Xs : List Nat} (h : RFl lo w a fs Xs) (hl : lo' ≤ lo) (hk : ∀ b, lo ≤ b → b < w.heap.size → w'.heap[b]? = w.heap[b]?) : RFl lo' w' a fs Xs := ⟨h.len, fun i g X hg hX => by
  obtain ⟨⟨k, k1, k2, k3⟩, h2⟩ := h.at' i g X hg hX
  exact ⟨⟨k, k1, Nat.le_trans hl k2, (World.cell?_of_block (a := ⟨k, i, none⟩) (hk k k2 (World.block_lt_of_cell? _ _ k3))).trans k3⟩, h2.keep hl hk⟩⟩
theorem RFl.below {lo : Nat} {w w' : World} {a : Option Addr} {fs : List FnT} {Xs : List Nat} (h : RFl lo w a fs Xs) (hb : Below w.heap.size w w') : RFl lo w' a fs Xs := h.keep (Nat.le_refl _) (fun b _ hl => hb.block b hl)
theorem RFl.get {lo : Nat} {w : World} {a : Option Addr} {fs : List FnT} {Xs : List Nat} (h : RFl lo w a fs Xs) {i : Nat} (hi : i < fs.length) : ∃ g X k, fs[i]? = some g ∧ Xs[i]? = some X ∧ a = some ⟨k, 0, none⟩ ∧ w.cell? ⟨k, i, none⟩ = some (.pointer (some ⟨X, 0, none⟩)) ∧ RFn lo w g X := by
  have h1 : fs[i]? = some fs[i] := List.getElem?_eq_getElem hi
  have h2 : Xs[i]? = some (Xs[i]'(by rw [h.len]; exact hi)) := List.getElem?_eq_getElem _
  obtain ⟨⟨k, k1, _, k3⟩, h4⟩ := h.at' i _ _ h1 h2
  exact ⟨_, _, k, h1, h2, k1, k3, h4⟩
theorem RFn.c0 {lo : Nat} {w : World} {g : FnT} {X : Nat} (h : RFn lo w g X) : w.cell? ⟨X, 0, none⟩ = some (.string (bs g.name)) := by
  obtain ⟨am, cm, aw, cw, pb, _, h2, _⟩ := h
  simp [World.cell?, h2]
/-- the number of the first function of a name -/
def fnd (fs : List FnT) (nm : List UInt8) : Option Nat := fs.findIdx? (fun g => g.name == nm)
theorem fnd_at {fs : List FnT} {nm : List UInt8} {k : Nat} {g : FnT} (h : ∀ (j : Nat) (g : FnT), j < k → fs[j]? = some g → ¬ g.name = nm) (hk : fs[k]? = some g) (hn : g.name = nm) : fnd fs nm = some k := by
  unfold fnd
  rw [List.findIdx?_eq_some_iff_getElem]
  obtain ⟨h1, h2⟩ := List.getElem?_eq_some_iff.1 hk
  refine ⟨h1, by rw [h2]; simpa using hn, fun j hj => ?_⟩
  have := h j fs[j] hj (List.getElem?_eq_getElem (by omega))
  simpa using this
theorem fnd_no {fs : List FnT} {nm : List UInt8} (h : ∀ (j : Nat) (g : FnT), fs[j]? = some g → ¬ g.name = nm) : fnd fs nm = none := by
  unfold fnd
  rw [List.findIdx?_eq_none_iff]
  intro x hx
  obtain ⟨i, hi⟩ := List.getElem?_of_mem hx
  have := h i x hi
  simpa using this

/-- how Find ends -/
def FdE (fs : List FnT) (Xs : List Nat) (nm : List UInt8) (e : Ending) : Prop := (fnd fs nm = none ∧ e = .returned (.pointer none)) ∨ ∃ k X, fnd fs nm = some k ∧ Xs[k]? = some X ∧ e = .returned (.pointer (some ⟨X, 0, none⟩))

set_option maxRecDepth 100000 in
set_option maxHeartbeats 1000000 in
theorem rgfind_any (lo c : Nat) (a : Option Addr) (fs : List FnT) (Xs : List Nat) (nm : ByteArray) (w : World) (hF : RFl lo w a fs Xs) (hn : fs.length ≤ 1000000) : Calls Tryz.prog 20 #[.slice a fs.length c, .string nm] w fun e w' => w' = w ∧ FdE fs Xs (by' nm) e := by
  have HF := hid hF
  obtain ⟨n, hnn⟩ : ∃ n, n = fs.length := ⟨_, rfl⟩
  have HN := hid hnn
  rw [← hnn] at hn ⊢
  clear hF hnn
  go_enter Tryz.func20, Tryz.ntmps20
  go_wp2_with fail
  go_loop [5] (fun v => ∃ k : Nat, k ≤ n ∧ v = .int .i64 k ∧ Hid (∀ j g, j < k → fs[j]? = some g → ¬ g.name = by' nm)) (fun v => n - (intOf v).toNat)
  case atStart => exact ⟨0, Nat.zero_le _, rfl, fun j g hj => by omega⟩
  case round =>
    obtain ⟨k, hk, rfl, HA⟩ := hrel
    by_cases hlt : k < n
    · have hlt2 : (k : Int) < (n : Int) := by omega
      have hwr : IntKind.i64.wrap ((k : Int) + 1) = (k : Int) + 1 := by rw [IntKind.wrap_i64]; omega
      obtain ⟨g, X, kb, hg, hX, rfl, hc, hR⟩ := HF.out.get (i := k) (by have := HN.out; omega)
      have c0 := hR.c0
      have HG := hid hg
      have HX := hid hX
      by_cases he : g.name = by' nm
      · have q : ((bs g.name).toList == nm.toList) = true := by rw [bs_list, by_list, he]; simp
        have HK := hid (fnd_at HA.out hg he)
        generalize bs g.name = gn at *
        clear hg hX hR he
        go_wp2_with fail
        go_ret
        exact ⟨rfl, Or.inr ⟨k, X, HK.out, HX.out, rfl⟩⟩
      · have q : ((bs g.name).toList == nm.toList) = false := by rw [bs_list, by_list]; simpa using he
        have HA2 : Hid (∀ j g, j < k + 1 → fs[j]? = some g → ¬ g.name = by' nm) := fun j g' hj hg' => by
          rcases Nat.lt_or_ge j k with h | h
          · exact HA.out j g' h hg'
          · obtain rfl : j = k := by omega
            rw [HG.out] at hg'
            injection hg' with hg'
            rw [← hg']; exact he
        generalize bs g.name = gn at *
        clear hg hX hR he
        go_wp2_with fail
        go_round
        case rel => exact ⟨k + 1, by omega, by go_num, HA2⟩
        case measure => simp [intOf]; omega
    · obtain rfl : k = n := by omega
      have hlt2 : ¬ (k : Int) < (k : Int) := by omega
      have HK : Hid (fnd fs (by' nm) = none) := fnd_no (fun j g hg => HA.out j g (by have := (List.getElem?_eq_some_iff.1 hg).1; have := HN.out; omega) hg)
      go_wp2_with fail
      go_ret
      exact ⟨rfl, Or.inl ⟨HK.out, rfl⟩⟩

/-- names in a row -/
def SLs (w : World) (a : Option Addr) (ss : List (List UInt8)) : Prop := ∀ i s, ss[i]? = some s → ∃ k, a = some ⟨k, 0, none⟩ ∧ w.cell? ⟨k, i, none⟩ = some (.string (bs s))
theorem SLs.below {w w' : World} {a : Option Addr} {ss : List (List UInt8)} (h : SLs w a ss) (hb : Below w.heap.size w w') : SLs w' a ss := fun i s hs => by
  obtain ⟨k, k1, k2⟩ := h i s hs
  exact ⟨k, k1, (hb.cell (p := ⟨k, i, none⟩) (World.block_lt_of_cell? _ _ k2)).trans k2⟩
theorem SLs.take {w : World} {a : Option Addr} {ss : List (List UInt8)} (h : SLs w a ss) (k : Nat) : SLs w a (ss.take k) := fun i s hs => by
  refine h i s ?_
  rcases Nat.lt_or_ge i k with g | g
  · rwa [List.getElem?_take_of_lt g] at hs
  · rw [List.getElem?_take, if_neg (by omega)] at hs; cases hs

set_option maxRecDepth 100000 in
set_option maxHeartbeats 1000000 in
theorem rhas_any (c n : Nat) (a : Option Addr) (ss : List (List UInt8)) (s : ByteArray) (w : World) (hS : SLs w a ss) (hnn : n = ss.length) (hn : n ≤ 1000000) : Calls Tryz.prog 53 #[.slice a n c, .string s] w fun e w' => w' = w ∧ e = .returned (.bool (decide (by' s ∈ ss))) := by
  have HF := hid hS
  have HN := hid hnn
  obtain ⟨r, hr⟩ : ∃ r, r = decide (by' s ∈ ss) := ⟨_, rfl⟩
  have HR := hid hr
  rw [← hr]
  clear hS hnn hr
  go_enter Tryz.func53, Tryz.ntmps53
  go_wp2_with fail
  go_loop [5] (fun v => ∃ k : Nat, k ≤ n ∧ v = .int .i64 k ∧ Hid (∀ j x, j < k → ss[j]? = some x → ¬ x = by' s)) (fun v => n - (intOf v).toNat)
  case atStart => exact ⟨0, Nat.zero_le _, rfl, fun j g hj => by omega⟩
  case round =>
    obtain ⟨k, hk, rfl, HA⟩ := hrel
    by_cases hlt : k < n
    · have hlt2 : (k : Int) < (n : Int) := by omega
      have hwr : IntKind.i64.wrap ((k : Int) + 1) = (k : Int) + 1 := by rw [IntKind.wrap_i64]; omega
      obtain ⟨x, hx⟩ : ∃ x, ss[k]? = some x := ⟨_, List.getElem?_eq_getElem (by have := HN.out; omega)⟩
      obtain ⟨kb, rfl, hc⟩ := HF.out k x hx
      have HX := hid hx
      by_cases he : x = by' s
      · have q : ((bs x).toList == s.toList) = true := by rw [bs_list, by_list, he]; simp
        have hrt : r = true := by rw [HR.out]; simp; rw [← he]; exact List.mem_of_getElem? hx
        subst hrt
        generalize bs x = gn at *
        clear hx he
        go_wp2_with fail
        go_ret
        exact ⟨rfl, rfl⟩
      · have q : ((bs x).toList == s.toList) = false := by rw [bs_list, by_list]; simpa using he
        have HA2 : Hid (∀ j x, j < k + 1 → ss[j]? = some x → ¬ x = by' s) := fun j g' hj hg' => by
          rcases Nat.lt_or_ge j k with h | h
          · exact HA.out j g' h hg'
          · obtain rfl : j = k := by omega
            rw [HX.out] at hg'
            injection hg' with hg'
            rw [← hg']; exact he
        generalize bs x = gn at *
        clear hx he
        go_wp2_with fail
        go_round
        case rel => exact ⟨k + 1, by omega, by go_num, HA2⟩
        case measure => simp [intOf]; omega
    · obtain rfl : k = n := by omega
      have hlt2 : ¬ (k : Int) < (k : Int) := by omega
      have hrf : r = false := by
        rw [HR.out]
        simp
        intro hm
        obtain ⟨i, hi⟩ := List.getElem?_of_mem hm
        exact HA.out i _ (by have := (List.getElem?_eq_some_iff.1 hi).1; have := HN.out; omega) hi rfl
      subst hrf
      go_wp2_with fail
      go_ret
      exact ⟨rfl, rfl⟩

end Go.Proofs.YtlgcmeachjjmgajGreatDoor
