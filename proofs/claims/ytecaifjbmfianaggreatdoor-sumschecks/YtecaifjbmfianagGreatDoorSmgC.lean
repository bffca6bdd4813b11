/- Package sums: every, areTables, isShown. -/
import Derived.Test.YtecaifjbmfianagGreatDoorSmgA
import Derived.Test.YtecaifjbmfianagGreatDoorSpgs
namespace Go.Proofs.YtecaifjbmfianagGreatDoor
open Go.RowKit

/-- all of the first n -/
def evb (ok : Nat → Bool) (n : Nat) : Bool := (List.range n).all ok
theorem evb_iff {ok : Nat → Bool} {n : Nat} : evb ok n = true ↔ ∀ k, k < n → ok k = true := by simp [evb]
theorem evb_not {ok : Nat → Bool} {n k : Nat} (hk : k < n) (h : ok k = false) : evb ok n = false := by
  cases he : evb ok n with
  | false => rfl
  | true => rw [evb_iff.1 he k hk] at h; cases h

set_option maxRecDepth 100000 in
theorem shownone_any (n cap B : Nat) (a : Option Addr) (d : Int) (w : World) (hd1 : 0 ≤ d) (hd2 : d ≤ 1000) (hB : w.cell? ⟨B, 0, none⟩ = some (.int .i64 d)) :
    Calls Tryz.prog 27 #[.slice a n cap, .pointer (some ⟨B, 0, none⟩)] w fun e w' => e = .returned (.bool ((n : Int) == d + 1)) ∧ w' = w := by
  have hw : IntKind.i64.wrap (d + 1) = d + 1 := by rw [IntKind.wrap_i64]; omega
  go_enter Tryz.func27, Tryz.ntmps27
  go_wp2_with fail
  go_ret
  exact ⟨rfl, rfl⟩

set_option maxRecDepth 100000 in
theorem everyone_any (F B Q n cap : Nat) (a : Option Addr) (t : Bool) (w : World) (hq : w.cell? ⟨Q, 0, none⟩ = some (.func (.func F) #[] #[.pointer (some ⟨B, 0, none⟩)]))
    (hcf : ∀ (args : Array Value) (w1 : World), (callFunc F args).run Tryz.prog w1 = .ok (.enter F args) w1)
    (HC : Calls Tryz.prog F #[.slice a n cap, .pointer (some ⟨B, 0, none⟩)] w fun e w' => e = .returned (.bool t) ∧ w' = w) :
    Calls Tryz.prog 40 #[.slice a n cap, .pointer (some ⟨Q, 0, none⟩)] w fun e w' => e = .returned (.bool (!t)) ∧ w' = w := by
  have HCC := hid HC
  clear HC
  go_enter Tryz.func40, Tryz.ntmps40
  go_wp2_with fail
  refine HCC.out.mono ?_
  rintro e w1 ⟨rfl, rfl⟩
  go_wp2_with fail
  go_ret
  exact ⟨rfl, rfl⟩

set_option maxRecDepth 100000 in
set_option maxHeartbeats 1000000 in
theorem indexf_any (F B Q cap : Nat) (a : Option Addr) (rows : List (List Int)) (ok : Nat → Bool) (w : World) (hlen : rows.length ≤ 281474976710656) (hl : LstR w.heap.size w a cap rows) (hq : w.cell? ⟨Q, 0, none⟩ = some (.func (.func F) #[] #[.pointer (some ⟨B, 0, none⟩)]))
    (hcf : ∀ (args : Array Value) (w1 : World), (callFunc F args).run Tryz.prog w1 = .ok (.enter F args) w1)
    (HC : ∀ (k : Nat) (ak : Option Addr) (ck : Nat), k < rows.length → Calls Tryz.prog F #[.slice ak (rat rows k).length ck, .pointer (some ⟨B, 0, none⟩)] w fun e w' => e = .returned (.bool (ok k)) ∧ w' = w) :
    Calls Tryz.prog 56 #[.slice a rows.length cap, .func (.func 40) #[] #[.pointer (some ⟨Q, 0, none⟩)]] w fun e w' => (∃ r : Int, e = .returned (.int .i64 r) ∧ decide (0 ≤ r) = !(evb ok rows.length)) ∧ w' = w := by
  have HL := hid hl
  have HE1 : Hid (∀ (k : Nat) (ak : Option Addr) (ck : Nat), k < rows.length → Calls Tryz.prog 40 #[.slice ak (rat rows k).length ck, .pointer (some ⟨Q, 0, none⟩)] w fun e w' => e = .returned (.bool (!(ok k))) ∧ w' = w) := fun k ak ck hk => everyone_any F B Q _ ck ak (ok k) w hq hcf (HC k ak ck hk)
  obtain ⟨n, hn⟩ : ∃ n, n = rows.length := ⟨_, rfl⟩
  rw [← hn] at hlen ⊢
  have HN := hid hn
  clear hl hq hcf HC hn
  go_enter Tryz.func56, Tryz.ntmps56
  go_wp2_with fail
  go_loop [8] (fun iv => ∃ k : Nat, k ≤ n ∧ iv = .int .i64 k ∧ Hid (∀ j, j < k → ok j = true)) (fun iv => n - (intOf iv).toNat)
  case atStart => exact ⟨0, by omega, rfl, fun j hj => by omega⟩
  case round =>
    obtain ⟨k, hk, rfl, hI⟩ := hrel
    by_cases hlt : k < n
    · have hlt2 : (k : Int) < (n : Int) := by omega
      have hks : IntKind.i64.wrap ((k : Int) + 1) = (k : Int) + 1 := by rw [IntKind.wrap_i64]; omega
      obtain ⟨b0, o0, ak, ck, rfl, _, hc, _⟩ := HL.out.row k (by rw [← HN.out]; exact hlt)
      have HX := HE1.out k ak ck (by rw [← HN.out]; exact hlt)
      generalize (rat rows k).length = L at *
      cases hb : ok k with
      | true =>
        rw [hb] at HX
        have HXX := hid HX
        have HE : Hid (∀ j, j < k + 1 → ok j = true) := fun j hj => by
          by_cases e : j = k
          · rw [e]; exact hb
          · exact hI.out j (by omega)
        clear hI HX hb
        go_wp2_with fail
        refine HXX.out.mono ?_
        rintro e w1 ⟨rfl, rfl⟩
        go_wp2_with fail
        go_round
        case rel => exact ⟨k + 1, by omega, by go_num, HE⟩
        case measure => simp [intOf]; omega
      | false =>
        rw [hb] at HX
        have HXX := hid HX
        have HE := hid (evb_not hlt hb)
        clear hI HX hb
        go_wp2_with fail
        refine HXX.out.mono ?_
        rintro e w1 ⟨rfl, rfl⟩
        go_wp2_with fail
        go_ret
        refine ⟨⟨(k : Int), rfl, ?_⟩, rfl⟩
        rw [HE.out]
        simp
    · obtain rfl : k = n := by omega
      have hlt2 : ¬ (k : Int) < (k : Int) := by omega
      have HE := hid (evb_iff.2 hI.out)
      clear hI
      go_wp2_with fail
      go_ret
      refine ⟨⟨-1, rfl, ?_⟩, rfl⟩
      rw [HE.out]
      simp

set_option maxRecDepth 100000 in
theorem containsf_any (F B Q cap : Nat) (a : Option Addr) (rows : List (List Int)) (ok : Nat → Bool) (w : World) (hlen : rows.length ≤ 281474976710656) (hl : LstR w.heap.size w a cap rows) (hq : w.cell? ⟨Q, 0, none⟩ = some (.func (.func F) #[] #[.pointer (some ⟨B, 0, none⟩)]))
    (hcf : ∀ (args : Array Value) (w1 : World), (callFunc F args).run Tryz.prog w1 = .ok (.enter F args) w1)
    (HC : ∀ (k : Nat) (ak : Option Addr) (ck : Nat), k < rows.length → Calls Tryz.prog F #[.slice ak (rat rows k).length ck, .pointer (some ⟨B, 0, none⟩)] w fun e w' => e = .returned (.bool (ok k)) ∧ w' = w) :
    Calls Tryz.prog 39 #[.slice a rows.length cap, .func (.func 40) #[] #[.pointer (some ⟨Q, 0, none⟩)]] w fun e w' => e = .returned (.bool (!(evb ok rows.length))) ∧ w' = w := by
  have HI := hid (indexf_any F B Q cap a rows ok w hlen hl hq hcf HC)
  clear hl hq hcf HC
  generalize evb ok rows.length = E at *
  generalize rows.length = n at *
  go_enter Tryz.func39, Tryz.ntmps39
  go_wp2_with fail
  refine HI.out.mono ?_
  rintro e w1 ⟨⟨r, rfl, hr⟩, rfl⟩
  have HRR := hid hr
  clear hr HI
  go_wp2_with fail
  go_ret
  exact ⟨by rw [← HRR.out]; rfl, rfl⟩

set_option maxRecDepth 100000 in
theorem every_any (F B cap : Nat) (a : Option Addr) (rows : List (List Int)) (ok : Nat → Bool) (w : World) (hlen : rows.length ≤ 281474976710656) (hl : LstR w.heap.size w a cap rows)
    (hcf : ∀ (args : Array Value) (w1 : World), (callFunc F args).run Tryz.prog w1 = .ok (.enter F args) w1)
    (HC : ∀ (W : World) (k : Nat) (ak : Option Addr) (ck : Nat), Below w.heap.size w W → k < rows.length → Calls Tryz.prog F #[.slice ak (rat rows k).length ck, .pointer (some ⟨B, 0, none⟩)] W fun e w' => e = .returned (.bool (ok k)) ∧ w' = W) :
    Calls Tryz.prog 26 #[.slice a rows.length cap, .func (.func F) #[] #[.pointer (some ⟨B, 0, none⟩)]] w fun e w' => e = .returned (.bool (evb ok rows.length)) ∧ Below w.heap.size w w' := by
  have hmf : ∀ (fn : Fn) (first cap : Array Value) (w : World), (Instr.makeFunc fn first cap).run Tryz.prog w = .ok (.func fn first cap) w := fun _ _ _ _ => rfl
  have hb0 : Below w.heap.size w (w.alloc (.cells #[.func (.func F) #[] #[.pointer (some ⟨B, 0, none⟩)]] 55)) := (Below.refl _ _).alloc (Nat.le_refl _) _
  have HCO := hid (containsf_any F B w.heap.size cap a rows ok (w.alloc (.cells #[.func (.func F) #[] #[.pointer (some ⟨B, 0, none⟩)]] 55)) hlen ((hl.below hb0).mono hb0.size) (by simp) hcf (fun k ak ck hk => HC _ k ak ck hb0 hk))
  have HB0 := hid hb0
  clear hl hcf HC hb0
  generalize evb ok rows.length = E at *
  generalize rows.length = n at *
  go_enter Tryz.func26, Tryz.ntmps26
  go_wp2_with fail
  refine HCO.out.mono ?_
  rintro e w1 ⟨rfl, rfl⟩
  go_wp2_with fail
  go_ret
  exact ⟨by simp, HB0.out⟩

theorem ovr_iff (rows : List (List Int)) : 0 ≤ ovr rows ↔ 1 ≤ rows.length ∧ rows.length ≤ 4 ∧ ∀ k, k < rows.length → 0 ≤ vrs (rat rows k).length ∧ (rat rows k).length = (rat rows 0).length := by
  unfold ovr
  split
  · rename_i h
    obtain ⟨h1, h2, h3⟩ := h
    constructor
    · intro h
      exact ⟨h1, h2, fun k hk => ⟨by rw [h3 k hk]; exact h, h3 k hk⟩⟩
    · intro h
      exact (h.2.2 0 (by omega)).1
  · rename_i h
    constructor
    · intro g; omega
    · intro g
      exact absurd ⟨g.1, g.2.1, fun k hk => (g.2.2 k hk).2⟩ h

set_option maxRecDepth 100000 in
set_option maxHeartbeats 1000000 in
theorem shown_any (d : Nat) (cr cf fl : Nat) (ar af : Option Addr) (rounds : List (List Int)) (n : Nat) (w : World) (hd : d ≤ 1000) (hlen : rounds.length ≤ 281474976710656) (hl : LstR w.heap.size w ar cr rounds) :
    Calls Tryz.prog 12 #[.int .i64 (d : Int), .agg #[.slice ar rounds.length cr, .slice af fl cf], .int .i64 (n : Int)] w fun e w' => e = .returned (.bool (decide (rounds.length = n ∧ fl = d ∧ ∀ k, k < rounds.length → (rat rounds k).length = d + 1))) ∧ Below w.heap.size w w' := by
  have hmf : ∀ (fn : Fn) (first cap : Array Value) (w : World), (Instr.makeFunc fn first cap).run Tryz.prog w = .ok (.func fn first cap) w := fun _ _ _ _ => rfl
  obtain ⟨V0, hV0⟩ : ∃ V0, V0 = w.alloc (.cells #[.int .i64 (d : Int)] 3) := ⟨_, rfl⟩
  obtain ⟨V1, hV1⟩ : ∃ V1, V1 = V0.alloc (.cells #[.slice ar rounds.length cr, .slice af fl cf] 25) := ⟨_, rfl⟩
  have hb0 : Below w.heap.size w V0 := by rw [hV0]; exact (Below.refl _ _).alloc (Nat.le_refl _) _
  have hb1 : Below V0.heap.size V0 V1 := by rw [hV1]; exact (Below.refl _ _).alloc (Nat.le_refl _) _
  have hz0 : V0.heap.size = w.heap.size + 1 := by rw [hV0]; simp
  have hbw : Below w.heap.size w V1 := hb0.trans (hb1.mono hb0.size)
  have hcB : V1.cell? ⟨w.heap.size, 0, none⟩ = some (.int .i64 (d : Int)) := by
    rw [hb1.cell (p := ⟨w.heap.size, 0, none⟩) (by show w.heap.size < V0.heap.size; omega), hV0]
    simp
  have HEV := hid (every_any 27 w.heap.size cr ar rounds (fun k => (((rat rounds k).length : Int) == (d : Int) + 1)) V1 hlen ((hl.below hbw).mono hbw.size) (enters_of Tryz.func27 (by kernel_rfl) (by kernel_rfl)) (fun W k ak ck hb hk => shownone_any _ ck w.heap.size ak (d : Int) W (by omega) (by omega) ((hb.cell (p := ⟨w.heap.size, 0, none⟩) (by have := hb1.size; show w.heap.size < V1.heap.size; omega)).trans hcB)))
  have HBW := hid hbw
  clear hl hb0 hb1 hz0 hbw hcB
  by_cases h1 : rounds.length = n
  · have t1 : ((rounds.length : Int) == (n : Int)) = true := by simp [h1]
    by_cases h2 : fl = d
    · have t2 : ((fl : Int) == (d : Int)) = true := by simp [h2]
      have HE : Hid (evb (fun k => (((rat rounds k).length : Int) == (d : Int) + 1)) rounds.length = decide (rounds.length = n ∧ fl = d ∧ ∀ k, k < rounds.length → (rat rounds k).length = d + 1)) := by
        unfold Hid
        rw [Bool.eq_iff_iff, decide_eq_true_eq, evb_iff]
        constructor
        · intro h
          exact ⟨h1, h2, fun k hk => by have := h k hk; rw [beq_iff_eq] at this; omega⟩
        · intro h k hk
          have := h.2.2 k hk
          rw [beq_iff_eq]
          omega
      rw [HE.out] at HEV
      generalize decide (rounds.length = n ∧ fl = d ∧ ∀ k, k < rounds.length → (rat rounds k).length = d + 1) = E at *
      generalize rounds.length = m at *
      rw [hV1, hV0] at HEV HBW
      clear HE hV1 hV0 h1 h2
      go_enter Tryz.func12, Tryz.ntmps12
      go_wp2_with fail
      refine HEV.out.mono ?_
      rintro e w1 ⟨rfl, hb1⟩
      have HB1 : Hid (Below w.heap.size w w1) := HBW.out.trans (hb1.mono HBW.out.size)
      clear hb1 HEV HBW
      go_wp2_with fail
      go_ret
      exact ⟨rfl, HB1.out⟩
    · have t2 : ((fl : Int) == (d : Int)) = false := by simp; omega
      have HE : decide (rounds.length = n ∧ fl = d ∧ ∀ k, k < rounds.length → (rat rounds k).length = d + 1) = false := by
        rw [decide_eq_false_iff_not]
        exact fun h => h2 h.2.1
      rw [HE]
      generalize rounds.length = m at *
      rw [hV1, hV0] at HBW
      clear HE hV1 hV0 h1 h2 HEV
      go_enter Tryz.func12, Tryz.ntmps12
      go_wp2_with fail
      go_ret
      exact ⟨rfl, HBW.out⟩
  · have t1 : ((rounds.length : Int) == (n : Int)) = false := by simp; omega
    have HE : decide (rounds.length = n ∧ fl = d ∧ ∀ k, k < rounds.length → (rat rounds k).length = d + 1) = false := by
      rw [decide_eq_false_iff_not]
      exact fun h => h1 h.1
    rw [HE]
    generalize rounds.length = m at *
    rw [hV1, hV0] at HBW
    clear HE hV1 hV0 h1 HEV
    go_enter Tryz.func12, Tryz.ntmps12
    go_wp2_with fail
    go_ret
    exact ⟨rfl, HBW.out⟩

end Go.Proofs.YtecaifjbmfianagGreatDoor
