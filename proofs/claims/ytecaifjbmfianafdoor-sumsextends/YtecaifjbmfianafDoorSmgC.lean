/- Package sums: every, areTables, isShown. -/
import Derived.Test.YtecaifjbmfianafDoorSmgA
import Derived.Test.YtecaifjbmfianafDoorSpgs
namespace Go.Proofs.YtecaifjbmfianafDoor
open Go.RowKit

/-- all of the first n -/
def evb (ok : Nat → Bool) (n : Nat) : Bool := (List.range n).all ok
theorem evb_iff {ok : Nat → Bool} {n : Nat} : evb ok n = true ↔ ∀ k, k < n → ok k = true := by simp [evb]
theorem evb_not {ok : Nat → Bool} {n k : Nat} (hk : k < n) (h : ok k = false) : evb ok n = false := by
  cases he : evb ok n with
  | false => rfl
  | true => rw [evb_iff.1 he k hk] at h; cases h

set_option maxRecDepth 100000 in
theorem fitone_any (n cap B : Nat) (a : Option Addr) (size : Int) (w : World) (hn : n ≤ 281474976710656) (hB : w.cell? ⟨B, 0, none⟩ = some (.int .i64 size)) :
    Calls Tryd.prog 75 #[.slice a n cap, .pointer (some ⟨B, 0, none⟩)] w fun e w' => e = .returned (.bool (decide (0 ≤ vrs n) && ((n : Int) == size))) ∧ w' = w := by
  have HI := hid (istable_any n cap a w hn)
  cases hb : decide (0 ≤ vrs n) with
  | true =>
    rw [hb] at HI
    clear hb
    go_enter Tryd.func75, Tryd.ntmps75
    go_wp2_with fail
    refine HI.out.mono ?_
    rintro e w1 ⟨rfl, rfl⟩
    go_wp2_with fail
    go_ret
    exact ⟨rfl, rfl⟩
  | false =>
    rw [hb] at HI
    clear hb
    go_enter Tryd.func75, Tryd.ntmps75
    go_wp2_with fail
    refine HI.out.mono ?_
    rintro e w1 ⟨rfl, rfl⟩
    go_wp2_with fail
    go_ret
    exact ⟨rfl, rfl⟩

set_option maxRecDepth 100000 in
theorem everyone_any (F B Q n cap : Nat) (a : Option Addr) (t : Bool) (w : World) (hq : w.cell? ⟨Q, 0, none⟩ = some (.func (.func F) #[] #[.pointer (some ⟨B, 0, none⟩)]))
    (hcf : ∀ (args : Array Value) (w1 : World), (callFunc F args).run Tryd.prog w1 = .ok (.enter F args) w1)
    (HC : Calls Tryd.prog F #[.slice a n cap, .pointer (some ⟨B, 0, none⟩)] w fun e w' => e = .returned (.bool t) ∧ w' = w) :
    Calls Tryd.prog 98 #[.slice a n cap, .pointer (some ⟨Q, 0, none⟩)] w fun e w' => e = .returned (.bool (!t)) ∧ w' = w := by
  have HCC := hid HC
  clear HC
  go_enter Tryd.func98, Tryd.ntmps98
  go_wp2_with fail
  refine HCC.out.mono ?_
  rintro e w1 ⟨rfl, rfl⟩
  go_wp2_with fail
  go_ret
  exact ⟨rfl, rfl⟩

set_option maxRecDepth 100000 in
set_option maxHeartbeats 1000000 in
theorem indexf_any (F B Q cap : Nat) (a : Option Addr) (rows : List (List Int)) (ok : Nat → Bool) (w : World) (hlen : rows.length ≤ 281474976710656) (hl : LstR w.heap.size w a cap rows) (hq : w.cell? ⟨Q, 0, none⟩ = some (.func (.func F) #[] #[.pointer (some ⟨B, 0, none⟩)]))
    (hcf : ∀ (args : Array Value) (w1 : World), (callFunc F args).run Tryd.prog w1 = .ok (.enter F args) w1)
    (HC : ∀ (k : Nat) (ak : Option Addr) (ck : Nat), k < rows.length → Calls Tryd.prog F #[.slice ak (rat rows k).length ck, .pointer (some ⟨B, 0, none⟩)] w fun e w' => e = .returned (.bool (ok k)) ∧ w' = w) :
    Calls Tryd.prog 110 #[.slice a rows.length cap, .func (.func 98) #[] #[.pointer (some ⟨Q, 0, none⟩)]] w fun e w' => (∃ r : Int, e = .returned (.int .i64 r) ∧ decide (0 ≤ r) = !(evb ok rows.length)) ∧ w' = w := by
  have HL := hid hl
  have HE1 : Hid (∀ (k : Nat) (ak : Option Addr) (ck : Nat), k < rows.length → Calls Tryd.prog 98 #[.slice ak (rat rows k).length ck, .pointer (some ⟨Q, 0, none⟩)] w fun e w' => e = .returned (.bool (!(ok k))) ∧ w' = w) := fun k ak ck hk => everyone_any F B Q _ ck ak (ok k) w hq hcf (HC k ak ck hk)
  obtain ⟨n, hn⟩ : ∃ n, n = rows.length := ⟨_, rfl⟩
  rw [← hn] at hlen ⊢
  have HN := hid hn
  clear hl hq hcf HC hn
  go_enter Tryd.func110, Tryd.ntmps110
  go_wp2_with fail
  go_loop [8] (fun iv => ∃ k : Nat, k ≤ n ∧ iv = .int .i64 k ∧ Hid (∀ j, j < k → ok j = true)) (fun iv => n - (intOf iv).toNat)
  case atStart => exact ⟨0, by omega, rfl, fun j hj => by omega⟩
  case round =>
    obtain ⟨k, hk, rfl, hI⟩ := hrel
    by_cases hlt : k < n
    · have hlt2 : (k : Int) < (n : Int) := by omega
      have hks : IntKind.i64.wrap ((k : Int) + 1) = (k : Int) + 1 := by rw [IntKind.wrap_i64]; omega
      obtain ⟨b0, o0, ak, ck, rfl, _, hc, _⟩ := HL.out.row k (by rw [← HN.out]; exact hlt)
      have HX := HE1.out k ak ck (by rw [← HN.out]; exact hlt)
      generalize (rat rows k).length = L at *
      cases hb : ok k with
      | true =>
        rw [hb] at HX
        have HXX := hid HX
        have HE : Hid (∀ j, j < k + 1 → ok j = true) := fun j hj => by
          by_cases e : j = k
          · rw [e]; exact hb
          · exact hI.out j (by omega)
        clear hI HX hb
        go_wp2_with fail
        refine HXX.out.mono ?_
        rintro e w1 ⟨rfl, rfl⟩
        go_wp2_with fail
        go_round
        case rel => exact ⟨k + 1, by omega, by go_num, HE⟩
        case measure => simp [intOf]; omega
      | false =>
        rw [hb] at HX
        have HXX := hid HX
        have HE := hid (evb_not hlt hb)
        clear hI HX hb
        go_wp2_with fail
        refine HXX.out.mono ?_
        rintro e w1 ⟨rfl, rfl⟩
        go_wp2_with fail
        go_ret
        refine ⟨⟨(k : Int), rfl, ?_⟩, rfl⟩
        rw [HE.out]
        simp
    · obtain rfl : k = n := by omega
      have hlt2 : ¬ (k : Int) < (k : Int) := by omega
      have HE := hid (evb_iff.2 hI.out)
      clear hI
      go_wp2_with fail
      go_ret
      refine ⟨⟨-1, rfl, ?_⟩, rfl⟩
      rw [HE.out]
      simp

set_option maxRecDepth 100000 in
theorem containsf_any (F B Q cap : Nat) (a : Option Addr) (rows : List (List Int)) (ok : Nat → Bool) (w : World) (hlen : rows.length ≤ 281474976710656) (hl : LstR w.heap.size w a cap rows) (hq : w.cell? ⟨Q, 0, none⟩ = some (.func (.func F) #[] #[.pointer (some ⟨B, 0, none⟩)]))
    (hcf : ∀ (args : Array Value) (w1 : World), (callFunc F args).run Tryd.prog w1 = .ok (.enter F args) w1)
    (HC : ∀ (k : Nat) (ak : Option Addr) (ck : Nat), k < rows.length → Calls Tryd.prog F #[.slice ak (rat rows k).length ck, .pointer (some ⟨B, 0, none⟩)] w fun e w' => e = .returned (.bool (ok k)) ∧ w' = w) :
    Calls Tryd.prog 97 #[.slice a rows.length cap, .func (.func 98) #[] #[.pointer (some ⟨Q, 0, none⟩)]] w fun e w' => e = .returned (.bool (!(evb ok rows.length))) ∧ w' = w := by
  have HI := hid (indexf_any F B Q cap a rows ok w hlen hl hq hcf HC)
  clear hl hq hcf HC
  generalize evb ok rows.length = E at *
  generalize rows.length = n at *
  go_enter Tryd.func97, Tryd.ntmps97
  go_wp2_with fail
  refine HI.out.mono ?_
  rintro e w1 ⟨⟨r, rfl, hr⟩, rfl⟩
  have HRR := hid hr
  clear hr HI
  go_wp2_with fail
  go_ret
  exact ⟨by rw [← HRR.out]; rfl, rfl⟩

set_option maxRecDepth 100000 in
theorem every_any (F B cap : Nat) (a : Option Addr) (rows : List (List Int)) (ok : Nat → Bool) (w : World) (hlen : rows.length ≤ 281474976710656) (hl : LstR w.heap.size w a cap rows)
    (hcf : ∀ (args : Array Value) (w1 : World), (callFunc F args).run Tryd.prog w1 = .ok (.enter F args) w1)
    (HC : ∀ (W : World) (k : Nat) (ak : Option Addr) (ck : Nat), Below w.heap.size w W → k < rows.length → Calls Tryd.prog F #[.slice ak (rat rows k).length ck, .pointer (some ⟨B, 0, none⟩)] W fun e w' => e = .returned (.bool (ok k)) ∧ w' = W) :
    Calls Tryd.prog 74 #[.slice a rows.length cap, .func (.func F) #[] #[.pointer (some ⟨B, 0, none⟩)]] w fun e w' => e = .returned (.bool (evb ok rows.length)) ∧ Below w.heap.size w w' := by
  have hmf : ∀ (fn : Fn) (first cap : Array Value) (w : World), (Instr.makeFunc fn first cap).run Tryd.prog w = .ok (.func fn first cap) w := fun _ _ _ _ => rfl
  have hb0 : Below w.heap.size w (w.alloc (.cells #[.func (.func F) #[] #[.pointer (some ⟨B, 0, none⟩)]] 82)) := (Below.refl _ _).alloc (Nat.le_refl _) _
  have HCO := hid (containsf_any F B w.heap.size cap a rows ok (w.alloc (.cells #[.func (.func F) #[] #[.pointer (some ⟨B, 0, none⟩)]] 82)) hlen ((hl.below hb0).mono hb0.size) (by simp) hcf (fun k ak ck hk => HC _ k ak ck hb0 hk))
  have HB0 := hid hb0
  clear hl hcf HC hb0
  generalize evb ok rows.length = E at *
  generalize rows.length = n at *
  go_enter Tryd.func74, Tryd.ntmps74
  go_wp2_with fail
  refine HCO.out.mono ?_
  rintro e w1 ⟨rfl, rfl⟩
  go_wp2_with fail
  go_ret
  exact ⟨by simp, HB0.out⟩

theorem ovr_iff (rows : List (List Int)) : 0 ≤ ovr rows ↔ 1 ≤ rows.length ∧ rows.length ≤ 4 ∧ ∀ k, k < rows.length → 0 ≤ vrs (rat rows k).length ∧ (rat rows k).length = (rat rows 0).length := by
  unfold ovr
  split
  · rename_i h
    obtain ⟨h1, h2, h3⟩ := h
    constructor
    · intro h
      exact ⟨h1, h2, fun k hk => ⟨by rw [h3 k hk]; exact h, h3 k hk⟩⟩
    · intro h
      exact (h.2.2 0 (by omega)).1
  · rename_i h
    constructor
    · intro g; omega
    · intro g
      exact absurd ⟨g.1, g.2.1, fun k hk => (g.2.2 k hk).2⟩ h

set_option maxRecDepth 100000 in
set_option maxHeartbeats 1000000 in
theorem aretables_any (cap : Nat) (a : Option Addr) (rows : List (List Int)) (w : World) (hlen : rows.length ≤ 281474976710656) (hlens : ∀ k, k < rows.length → (rat rows k).length ≤ 281474976710656) (hl : LstR w.heap.size w a cap rows) :
    Calls Tryd.prog 49 #[.slice a rows.length cap] w fun e w' => e = .returned (.bool (decide (0 ≤ ovr rows))) ∧ Below w.heap.size w w' := by
  have hmf : ∀ (fn : Fn) (first cap : Array Value) (w : World), (Instr.makeFunc fn first cap).run Tryd.prog w = .ok (.func fn first cap) w := fun _ _ _ _ => rfl
  by_cases h1 : 1 ≤ rows.length ∧ rows.length ≤ 4
  · obtain ⟨h1, h4⟩ := h1
    obtain ⟨b0, o0, ak, ck, rfl, hb0, hc, hlk⟩ := hl.row 0 (by omega)
    rw [Nat.add_zero] at hc
    obtain ⟨L, hL⟩ : ∃ L, L = (rat rows 0).length := ⟨_, rfl⟩
    rw [← hL] at hc
    have hbw : Below w.heap.size w (w.alloc (.cells #[.int .i64 (L : Int)] 3)) := (Below.refl _ _).alloc (Nat.le_refl _) _
    have hcB : (w.alloc (.cells #[.int .i64 (L : Int)] 3)).cell? ⟨w.heap.size, 0, none⟩ = some (.int .i64 (L : Int)) := by simp
    have HEV := hid (every_any 75 w.heap.size cap (some ⟨b0, o0, none⟩) rows (fun k => decide (0 ≤ vrs (rat rows k).length) && (((rat rows k).length : Int) == (L : Int))) _ hlen ((hl.below hbw).mono hbw.size) (enters_of Tryd.func75 (by kernel_rfl) (by kernel_rfl)) (fun W k ak ck hb hk => fitone_any _ ck w.heap.size ak (L : Int) W (hlens k hk) ((hb.cell (p := ⟨w.heap.size, 0, none⟩) (by simp)).trans hcB)))
    have HE : Hid (evb (fun k => decide (0 ≤ vrs (rat rows k).length) && (((rat rows k).length : Int) == (L : Int))) rows.length = decide (0 ≤ ovr rows)) := by
      unfold Hid
      rw [Bool.eq_iff_iff, decide_eq_true_eq, ovr_iff, evb_iff]
      constructor
      · intro h
        refine ⟨h1, h4, fun k hk => ?_⟩
        have := h k hk
        rw [Bool.and_eq_true, decide_eq_true_eq, beq_iff_eq] at this
        exact ⟨this.1, by omega⟩
      · intro h k hk
        have := h.2.2 k hk
        rw [Bool.and_eq_true, decide_eq_true_eq, beq_iff_eq]
        exact ⟨this.1, by omega⟩
    rw [HE.out] at HEV
    have HBW := hid hbw
    have t1 : ¬ (rows.length : Int) < 1 := by omega
    have t2 : ¬ (rows.length : Int) > 4 := by omega
    have t3 : (0 : Int) < (rows.length : Int) := by omega
    generalize decide (0 ≤ ovr rows) = E at *
    generalize rows.length = n at *
    clear hl hL hlk hlens hbw hcB HE
    go_enter Tryd.func49, Tryd.ntmps49
    go_wp2_with fail
    refine HEV.out.mono ?_
    rintro e w1 ⟨rfl, hb1⟩
    have HB1 : Hid (Below w.heap.size w w1) := HBW.out.trans (hb1.mono HBW.out.size)
    clear hb1 HEV HBW
    go_wp2_with fail
    go_ret
    exact ⟨rfl, HB1.out⟩
  · have HE : decide (0 ≤ ovr rows) = false := by
      rw [decide_eq_false_iff_not, ovr_iff]
      exact fun h => h1 ⟨h.1, h.2.1⟩
    rw [HE]
    clear HE hl hlens
    by_cases h0 : 1 ≤ rows.length
    · have t1 : ¬ (rows.length : Int) < 1 := by omega
      have t2 : (rows.length : Int) > 4 := by omega
      generalize rows.length = n at *
      clear h1
      go_enter Tryd.func49, Tryd.ntmps49
      go_wp2_with fail
      go_ret
      exact ⟨rfl, Below.refl _ _⟩
    · have t1 : (rows.length : Int) < 1 := by omega
      generalize rows.length = n at *
      clear h1
      go_enter Tryd.func49, Tryd.ntmps49
      go_wp2_with fail
      go_ret
      exact ⟨rfl, Below.refl _ _⟩

end Go.Proofs.YtecaifjbmfianafDoor
