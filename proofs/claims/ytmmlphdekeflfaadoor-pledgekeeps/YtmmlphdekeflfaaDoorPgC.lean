/- Package pledge: powers, Mix. -/
import Derived.Test.YtmmlphdekeflfaaDoorPgB
namespace Go.Proofs.YtmmlphdekeflfaaDoor
open Go.RowKit

set_option maxRecDepth 100000 in
theorem powers_any (b : Nat) (r : Int) (w : World) :
    Calls Tryd.prog 14 #[.pointer (some ⟨b, 0, none⟩), .int .i64 r] w fun e w' => ∃ B0 B1, e = .returned (.func (.func 29) #[] #[.pointer (some ⟨B0, 0, none⟩), .pointer (some ⟨B1, 0, none⟩)]) ∧ B0 < w'.heap.size ∧ B1 < w'.heap.size ∧ w'.cell? ⟨B0, 0, none⟩ = some (.pointer (some ⟨b, 0, none⟩)) ∧ w'.cell? ⟨B1, 0, none⟩ = some (.int .i64 r) ∧ Below w.heap.size w w' := by
  obtain ⟨W1, hW1⟩ : ∃ W1, W1 = w.alloc (.cells #[.pointer (some ⟨b, 0, none⟩)] 32) := ⟨_, rfl⟩
  obtain ⟨W2, hW2⟩ : ∃ W2, W2 = W1.alloc (.cells #[.int .i64 r] 3) := ⟨_, rfl⟩
  have hs1 : W1.heap[w.heap.size]? = some (.cells #[.pointer (some ⟨b, 0, none⟩)] 32 (0, 0)) := by rw [hW1]; exact heap_alloc_new w _
  have hs2 : W2.heap[W1.heap.size]? = some (.cells #[.int .i64 r] 3 (0, 0)) := by rw [hW2]; exact heap_alloc_new W1 _
  have hb1 : Below w.heap.size w W1 := by rw [hW1]; exact (Below.refl _ _).alloc (Nat.le_refl _) _
  have hb2 : Below W1.heap.size W1 W2 := by rw [hW2]; exact (Below.refl _ _).alloc (Nat.le_refl _) _
  have hz1 : W1.heap.size = w.heap.size + 1 := by rw [hW1]; simp
  have hz2 : W2.heap.size = w.heap.size + 2 := by rw [hW2]; simp [hz1]
  have HE : Hid (w.heap.size < W2.heap.size ∧ W1.heap.size < W2.heap.size ∧ W2.cell? ⟨w.heap.size, 0, none⟩ = some (.pointer (some ⟨b, 0, none⟩)) ∧ W2.cell? ⟨W1.heap.size, 0, none⟩ = some (.int .i64 r) ∧ Below w.heap.size w W2) :=
    ⟨by omega, by omega, (hb2.cell (p := ⟨w.heap.size, 0, none⟩) (by show w.heap.size < W1.heap.size; omega)).trans (by simp [World.cell?, hs1]), by simp [World.cell?, hs2], hb1.trans (hb2.mono (by omega))⟩
  have HZ := hid hz1
  clear hs1 hs2 hb1 hb2 hz1 hz2
  go_enter Tryd.func14, Tryd.ntmps14
  go_wp2_with fail
  go_ret
  refine ⟨_, _, rfl, ?_⟩
  rw [hW2, hW1] at HE
  have := HE.out
  rw [← hW1, HZ.out] at this
  rw [hW1] at this
  exact this

set_option maxRecDepth 100000 in
theorem powq_any (p b B0 B1 cap : Nat) (r : Int) (a : Option Addr) (zs : List Int) (w : World) (h3 : 3 ≤ p) (hm : p ≤ 2147483647) (hp : w.cell? ⟨b, 0, none⟩ = some (.int .i64 p)) (h0 : w.cell? ⟨B0, 0, none⟩ = some (.pointer (some ⟨b, 0, none⟩))) (h1 : w.cell? ⟨B1, 0, none⟩ = some (.int .i64 r))
    (hn : zs.length ≤ 281474976710656) (hfit : Fits zs) (hr1 : -9223372036854775808 ≤ r) (hr2 : r ≤ 9223372036854775807) (hrow : RowB w.heap.size w a zs) :
    Calls Tryd.prog 29 #[.slice a zs.length cap, .pointer (some ⟨B0, 0, none⟩), .pointer (some ⟨B1, 0, none⟩)] w fun e w' => e = .returned (.int .i64 (evz p zs r)) ∧ Below w.heap.size w w' := by
  have HE := hid (eval_any p b cap (· < w.heap.size) a zs r w h3 hm hp hn hfit hr1 hr2 (hrow.p (fun _ h => h)))
  generalize evz p zs r = E at *
  generalize zs.length = n at *
  clear hfit hrow
  go_enter Tryd.func29, Tryd.ntmps29
  go_wp2_with fail
  refine HE.out.mono ?_
  rintro e w1 ⟨rfl, n1, rfl⟩
  go_wp2_with fail
  go_ret
  exact ⟨rfl, below_drewN (Below.refl _ _) n1⟩

/-- rows that can be mixed -/
def MixOk (rows : List (List Int)) : Prop := 1 ≤ rows.length ∧ wiB (rat rows 0).length rows = true
/-- what rows are mixed to -/
def mixz (p : Nat) (rows : List (List Int)) (r : Int) : List Int := ls (fun j => evz p (pgc rows j) r) (rat rows 0).length
theorem mixz_len (p : Nat) (rows : List (List Int)) (r : Int) : (mixz p rows r).length = (rat rows 0).length := ls_len _ _

set_option maxRecDepth 100000 in
set_option maxHeartbeats 1000000 in
theorem mix_any (p b cap : Nat) (r : Int) (a : Option Addr) (rows : List (List Int)) (w : World) (h3 : 3 ≤ p) (hm : p ≤ 2147483647) (hp : w.cell? ⟨b, 0, none⟩ = some (.int .i64 p)) (hb : b < w.heap.size) (hr1 : -9223372036854775808 ≤ r) (hr2 : r ≤ 9223372036854775807)
    (hn : rows.length ≤ 17592186044000) (hF : FitsR rows) (hl : LstR w.heap.size w a cap rows) :
    Calls Tryd.prog 5 #[.pointer (some ⟨b, 0, none⟩), .slice a rows.length cap, .int .i64 r] w fun e w' => Below w.heap.size w w' ∧
      (MixOk rows → ∃ g, e = .returned (.tuple #[.slice (some ⟨g, 0, none⟩) (rat rows 0).length (rat rows 0).length, .nilIface]) ∧ Lst w'.heap.size w' (some ⟨g, 0, none⟩) (rat rows 0).length (mixz p rows r)) ∧
      (¬ MixOk rows → e = .returned (.tuple #[.slice none 0 0, .iface 43 (.int .i64 2)])) := by
  by_cases h0 : rows.length = 0
  · have HN : Hid (¬ MixOk rows) := fun h => by have := h.1; omega
    have hq : (rows.length : Int) = 0 := by omega
    rw [h0]
    clear hl hF h0 hq
    go_enter Tryd.func5, Tryd.ntmps5
    go_wp2_with fail
    go_ret2
    exact ⟨Below.refl _ _, fun h => absurd h HN.out, fun _ => rfl⟩
  · obtain ⟨b0, o0, a0, c0, rfl, hb0, hc0, hl0⟩ := hl.row 0 (by omega)
    have hc0' : w.cell? ⟨b0, o0, none⟩ = some (.slice a0 (rat rows 0).length c0) := by simpa using hc0
    have HW := hid (areWide_any cap (rat rows 0).length (some ⟨b0, o0, none⟩) rows w (by omega) hl)
    by_cases hwi : wiB (rat rows 0).length rows = true
    · have HOK : Hid (MixOk rows) := ⟨by omega, hwi⟩
      have hl0n := (hF 0 (by omega)).2
      have HAC : Hid (∀ (W : World) (B0 B1 : Nat), Below w.heap.size w W → B0 < W.heap.size → B1 < W.heap.size → W.cell? ⟨B0, 0, none⟩ = some (.pointer (some ⟨b, 0, none⟩)) → W.cell? ⟨B1, 0, none⟩ = some (.int .i64 r) →
          Calls Tryd.prog 13 #[.slice (some ⟨b0, o0, none⟩) rows.length cap, .func (.func 29) #[] #[.pointer (some ⟨B0, 0, none⟩), .pointer (some ⟨B1, 0, none⟩)]] W fun e w' => e = .returned (.slice (some ⟨W.heap.size, 0, none⟩) (rat rows 0).length (rat rows 0).length) ∧ ArrI w' W.heap.size 3 (rat rows 0).length (fun j => evz p (pgc rows j) r) ∧ Below W.heap.size W w') :=
        fun W B0 B1 hW q0 q1 k0 k1 => across_any 29 cap (rat rows 0).length #[.pointer (some ⟨B0, 0, none⟩), .pointer (some ⟨B1, 0, none⟩)] (fun l => evz p l r) _ rows W (by omega) hn hl0n (fun k hk => wiB_at hwi hk) ((hl.below hW).mono hW.size)
          (enters_of Tryd.func29 (by kernel_rfl) (by kernel_rfl))
          (fun W2 g j hW2 hj hA => by
            have hq := powq_any p b B0 B1 rows.length r (some ⟨g, 0, none⟩) (pgc rows j) W2 h3 hm ((hW2.cell (p := ⟨b, 0, none⟩) (by have := hW.size; show b < _; omega)).trans ((hW.cell (p := ⟨b, 0, none⟩) hb).trans hp)) ((hW2.cell (p := ⟨B0, 0, none⟩) q0).trans k0) ((hW2.cell (p := ⟨B1, 0, none⟩) q1).trans k1)
              (by rw [pgc_len]; omega) (pgc_fits hF j) hr1 hr2 (fun k hk => ⟨g, 0, rfl, hA.lt, by rw [Nat.zero_add]; exact hA.cell (by rw [pgc_len] at hk; exact hk)⟩)
            rw [pgc_len] at hq
            exact hq)
      have HMZ : Hid (mixz p rows r = ls (fun j => evz p (pgc rows j) r) (rat rows 0).length) := rfl
      rw [hwi] at HW
      generalize (rat rows 0).length = m at *
      obtain ⟨n, hnn⟩ : ∃ n, n = rows.length := ⟨_, rfl⟩
      simp only [← hnn] at HAC HW h0 hn ⊢
      have hz : ¬ (n : Int) = 0 := by omega
      have hzl : (0 : Int) < (n : Int) := by omega
      clear hl hF hwi hl0 hc0 hnn
      go_enter Tryd.func5, Tryd.ntmps5
      go_wp2_with fail
      refine HW.out.mono ?_
      rintro e w1 ⟨rfl, hb1⟩
      have HB1 := hid hb1
      clear HW hb1
      go_wp2_with fail
      refine (powers_any b r w1).mono ?_
      rintro e w2 ⟨B0, B1, rfl, q0, q1, k0, k1, hb2⟩
      have HB2 : Hid (Below w.heap.size w w2) := HB1.out.trans (hb2.mono HB1.out.size)
      have HA := hid (HAC.out w2 B0 B1 HB2.out q0 q1 k0 k1)
      clear HAC q0 q1 k0 k1 hb2
      go_wp2_with fail
      refine HA.out.mono ?_
      rintro e w3 ⟨rfl, har, hb3⟩
      have HE : Hid (Lst w3.heap.size w3 (some ⟨w2.heap.size, 0, none⟩) m (mixz p rows r) ∧ Below w.heap.size w w3) :=
        ⟨by rw [HMZ.out]; exact ⟨fun k hk => ⟨_, 0, rfl, har.lt, by rw [ls_len] at hk; rw [ls_at _ _ _ hk, Nat.zero_add]; exact har.cell hk⟩, by rw [ls_len]; exact Nat.le_refl _, fun e => by cases e⟩, HB2.out.trans (hb3.mono HB2.out.size)⟩
      clear har hb3 HA
      go_wp2_with fail
      go_ret2
      exact ⟨HE.out.2, fun _ => ⟨_, rfl, HE.out.1⟩, fun h => absurd HOK.out h⟩
    · have HNO : Hid (¬ MixOk rows) := fun h => hwi h.2
      rw [show wiB (rat rows 0).length rows = false from by simpa using hwi] at HW
      generalize (rat rows 0).length = m at *
      obtain ⟨n, hnn⟩ : ∃ n, n = rows.length := ⟨_, rfl⟩
      simp only [← hnn] at HW h0 hn ⊢
      have hz : ¬ (n : Int) = 0 := by omega
      have hzl : (0 : Int) < (n : Int) := by omega
      clear hl hF hwi hl0 hc0 hnn
      go_enter Tryd.func5, Tryd.ntmps5
      go_wp2_with fail
      refine HW.out.mono ?_
      rintro e w1 ⟨rfl, hb1⟩
      have HB1 := hid hb1
      clear HW hb1
      go_wp2_with fail
      go_ret2
      exact ⟨HB1.out, fun h => absurd h HNO.out, fun _ => rfl⟩

end Go.Proofs.YtmmlphdekeflfaaDoor
