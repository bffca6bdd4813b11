/- Package pledge: areWide, column, powers, across, Mix. Plain facts on mending a word: lists of places; what is 0 at given points alone; the polynomial that a word is of, but for few places, is what the division gives. Package code: a domain as it lies still; mayBound, Encode. -/
import Derived.Test.YtpgnabmkfkcogaaGreatDoorGxAF
import Derived.Test.YtpgnabmkfkcogaaGreatDoorSpgs
import Derived.Test.YtpgnabmkfkcogaaGreatDoorPls
import Derived.StillTailTactics
import Derived.Test.YtpgnabmkfkcogaaGreatDoorPlain
import Derived.Test.YtpgnabmkfkcogaaGreatDoorGxAC
import Derived.Test.YtpgnabmkfkcogaaGreatDoorDoms
import Derived.Test.YtpgnabmkfkcogaaGreatDoorGxAD
namespace Go.Proofs.YtpgnabmkfkcogaaGreatDoor
open Go.RowKit

/-- are all rows so wide? -/
def wiB (m : Nat) (rows : List (List Int)) : Bool := rows.all fun r => r.length == m
theorem wiB_yes {m : Nat} {rows : List (List Int)} (h : ∀ k, k < rows.length → (rat rows k).length = m) : wiB m rows = true := by
  unfold wiB
  rw [List.all_eq_true]
  intro r hr
  obtain ⟨k, hk, rfl⟩ := List.mem_iff_getElem.1 hr
  have := h k hk
  simp [rat, hk] at this
  simp [this]
theorem wiB_at {m : Nat} {rows : List (List Int)} (h : wiB m rows = true) {k : Nat} (hk : k < rows.length) : (rat rows k).length = m := by
  unfold wiB at h
  rw [List.all_eq_true] at h
  have := h rows[k] (List.getElem_mem hk)
  simp at this
  simp [rat, hk, this]
theorem wiB_no {m k : Nat} {rows : List (List Int)} (hk : k < rows.length) (h : (rat rows k).length ≠ m) : wiB m rows = false := by
  cases e : wiB m rows with
  | false => rfl
  | true => exact absurd (wiB_at e hk) h

set_option maxRecDepth 100000 in
theorem anot_any (n cap m B : Nat) (a : Option Addr) (w : World) (h : w.cell? ⟨B, 0, none⟩ = some (.int .i64 (m : Int))) :
    Calls Tryz.prog 99 #[.slice a n cap, .pointer (some ⟨B, 0, none⟩)] w fun e w' => e = .returned (.bool (!((n : Int) == (m : Int)))) ∧ w' = w := by
  go_enter Tryz.func99, Tryz.ntmps99
  go_wp2_with fail
  go_ret
  exact ⟨rfl, rfl⟩

set_option maxRecDepth 100000 in
set_option maxHeartbeats 1000000 in
theorem aindex_any (cap m B : Nat) (a : Option Addr) (rows : List (List Int)) (w : World) (h : w.cell? ⟨B, 0, none⟩ = some (.int .i64 (m : Int))) (hlen : rows.length ≤ 281474976710656) (hl : LstR w.heap.size w a cap rows) :
    Calls Tryz.prog 166 #[.slice a rows.length cap, .func (.func 99) #[] #[.pointer (some ⟨B, 0, none⟩)]] w fun e w' => (∃ r : Int, e = .returned (.int .i64 r) ∧ decide (0 ≤ r) = !(wiB m rows)) ∧ w' = w := by
  have hcf := enters_of Tryz.func99 (by kernel_rfl) (by kernel_rfl)
  have HL := hid hl
  have HE1 : Hid (∀ (k : Nat) (ak : Option Addr) (ck : Nat), Calls Tryz.prog 99 #[.slice ak (rat rows k).length ck, .pointer (some ⟨B, 0, none⟩)] w fun e w' => e = .returned (.bool (!(((rat rows k).length : Int) == (m : Int)))) ∧ w' = w) := fun k ak ck => anot_any _ ck m B ak w h
  obtain ⟨n, hn⟩ : ∃ n, n = rows.length := ⟨_, rfl⟩
  rw [← hn] at hlen ⊢
  have HN := hid hn
  obtain ⟨R, hR⟩ : ∃ R, R = wiB m rows := ⟨_, rfl⟩
  have HR := hid hR
  rw [← hR]
  clear hl hn hR
  go_enter Tryz.func166, Tryz.ntmps166
  go_wp2_with fail
  go_loop [8] (fun iv => ∃ k : Nat, k ≤ n ∧ iv = .int .i64 k ∧ Hid (∀ j, j < k → (rat rows j).length = m)) (fun iv => n - (intOf iv).toNat)
  case atStart => exact ⟨0, by omega, rfl, fun j hj => by omega⟩
  case round =>
    obtain ⟨k, hk, rfl, hI⟩ := hrel
    by_cases hlt : k < n
    · have hlt2 : (k : Int) < (n : Int) := by omega
      have hks : IntKind.i64.wrap ((k : Int) + 1) = (k : Int) + 1 := by rw [IntKind.wrap_i64]; omega
      obtain ⟨b0, o0, ak, ck, rfl, _, hc, _⟩ := HL.out.row k (by rw [← HN.out]; exact hlt)
      have HX := HE1.out k ak ck
      by_cases hb : (rat rows k).length = m
      · have q : (((rat rows k).length : Int) == (m : Int)) = true := by rw [hb, beq_self_eq_true]
        rw [q] at HX
        have HXX := hid HX
        have HE : Hid (∀ j, j < k + 1 → (rat rows j).length = m) := fun j hj => by
          by_cases e : j = k
          · rw [e]; exact hb
          · exact hI.out j (by omega)
        clear hI HX hb q
        generalize (rat rows k).length = L at *
        go_wp2_with fail
        refine HXX.out.mono ?_
        rintro e w1 ⟨rfl, rfl⟩
        go_wp2_with fail
        go_round
        case rel => exact ⟨k + 1, by omega, by go_num, HE⟩
        case measure => simp [intOf]; omega
      · have q : (((rat rows k).length : Int) == (m : Int)) = false := by rw [beq_eq_false_iff_ne]; omega
        rw [q] at HX
        have HXX := hid HX
        have HE : Hid (R = false) := by unfold Hid; rw [HR.out]; exact wiB_no (by rw [← HN.out]; exact hlt) hb
        clear hI HX hb q
        generalize (rat rows k).length = L at *
        go_wp2_with fail
        refine HXX.out.mono ?_
        rintro e w1 ⟨rfl, rfl⟩
        go_wp2_with fail
        go_ret
        refine ⟨⟨(k : Int), rfl, ?_⟩, rfl⟩
        rw [HE.out]
        simp
    · obtain rfl : k = n := by omega
      have hlt2 : ¬ (k : Int) < (k : Int) := by omega
      have HE : Hid (R = true) := by unfold Hid; rw [HR.out]; exact wiB_yes (fun j hj => hI.out j (by rw [HN.out]; exact hj))
      clear hI
      go_wp2_with fail
      go_ret
      refine ⟨⟨-1, rfl, ?_⟩, rfl⟩
      rw [HE.out]
      simp

set_option maxRecDepth 100000 in
theorem acontains_any (cap m B : Nat) (a : Option Addr) (rows : List (List Int)) (w : World) (h : w.cell? ⟨B, 0, none⟩ = some (.int .i64 (m : Int))) (hlen : rows.length ≤ 281474976710656) (hl : LstR w.heap.size w a cap rows) :
    Calls Tryz.prog 98 #[.slice a rows.length cap, .func (.func 99) #[] #[.pointer (some ⟨B, 0, none⟩)]] w fun e w' => e = .returned (.bool (!(wiB m rows))) ∧ w' = w := by
  have HI := hid (aindex_any cap m B a rows w h hlen hl)
  clear hl h
  generalize wiB m rows = E at *
  generalize rows.length = n at *
  go_enter Tryz.func98, Tryz.ntmps98
  go_wp2_with fail
  refine HI.out.mono ?_
  rintro e w1 ⟨⟨r, rfl, hr⟩, rfl⟩
  have HRR := hid hr
  clear hr HI
  go_wp2_with fail
  go_ret
  exact ⟨by rw [← HRR.out]; rfl, rfl⟩

set_option maxRecDepth 100000 in
set_option maxHeartbeats 1000000 in
theorem areWide_any (cap m : Nat) (a : Option Addr) (rows : List (List Int)) (w : World) (hlen : rows.length ≤ 281474976710656) (hl : LstR w.heap.size w a cap rows) :
    Calls Tryz.prog 40 #[.slice a rows.length cap, .int .i64 (m : Int)] w fun e w' => e = .returned (.bool (wiB m rows)) ∧ Below w.heap.size w w' := by
  obtain ⟨W0, hW0⟩ : ∃ W0, W0 = w.alloc (.cells #[.int .i64 (m : Int)] 3) := ⟨_, rfl⟩
  have hb0 : Below w.heap.size w W0 := by rw [hW0]; exact (Below.refl _ _).alloc (Nat.le_refl _) _
  have hs0 : W0.heap[w.heap.size]? = some (.cells #[.int .i64 (m : Int)] 3 (0, 0)) := by rw [hW0]; exact heap_alloc_new w _
  have HC := hid (acontains_any cap m w.heap.size a rows W0 (by simp [World.cell?, hs0]) hlen ((hl.below hb0).mono hb0.size))
  have HB0 := hid hb0
  clear hl hb0 hs0
  generalize wiB m rows = E at *
  generalize rows.length = n at *
  go_enter Tryz.func40, Tryz.ntmps40
  go_wp2_with fail
  rw [← hW0]
  clear hW0
  refine HC.out.mono ?_
  rintro e w1 ⟨rfl, hw⟩
  have hw1 := hw.symm
  subst hw1
  go_wp2_with fail
  go_ret
  exact ⟨by first | rfl | simp, HB0.out⟩

set_option maxRecDepth 100000 in
set_option maxHeartbeats 1000000 in
/-- a column is a new list -/
theorem column_any (cap j : Nat) (a : Option Addr) (rows : List (List Int)) (w : World) (hn : rows.length ≤ 17592186044000) (hj : ∀ k, k < rows.length → j < (rat rows k).length) (hl : LstR w.heap.size w a cap rows) :
    Calls Tryz.prog 100 #[.slice a rows.length cap, .int .i64 (j : Int)] w fun e w' => e = .returned (.slice (some ⟨w.heap.size, 0, none⟩) rows.length rows.length) ∧ ArrI w' w.heap.size 3 rows.length (zat (pgc rows j)) ∧ Below w.heap.size w w' := by
  have HL := hid hl
  have HJ := hid hj
  obtain ⟨n, hnn⟩ : ∃ n, n = rows.length := ⟨_, rfl⟩
  rw [← hnn] at hn ⊢
  have HN := hid hnn
  obtain ⟨G, hG⟩ : ∃ G : Nat → Int, G = zat (pgc rows j) := ⟨_, rfl⟩
  rw [← hG]
  have HG : Hid (∀ k, k < n → zat (rat rows k) j = G k) := fun k hk => by rw [hG, pgc_at j (by omega)]
  have hmk2 := fun w => run_make_row' (P := Tryz.prog) 23 3 (.int .i64 0) 8 Tryz.underlying23 Tryz.infoInt rfl .i64 .i64 n (by omega) (by omega) w
  clear hl hj hnn hG
  go_enter Tryz.func100, Tryz.ntmps100
  go_wp2_with fail
  go_loopw [6, 7, 13] (fun _ _ iv wr => ∃ k : Nat, k ≤ n ∧ iv = .int .i64 k ∧ Hid (ArrI wr w.heap.size 3 n (fll G (fun _ => 0) k) ∧ Below w.heap.size w wr)) (fun _ _ iv _ => n - (intOf iv).toNat)
  case atStart => exact ⟨0, by omega, rfl, by rw [fll_zero]; exact World.rowIs_made _ _ _ _, (Below.refl _ _).alloc (Nat.le_refl _) _⟩
  case round =>
    obtain ⟨k, hk, rfl, hI⟩ := hrel
    by_cases hlt : k < n
    · have hlt2 : (k : Int) < (n : Int) := by omega
      have hks : IntKind.i64.wrap ((k : Int) + 1) = (k : Int) + 1 := by rw [IntKind.wrap_i64]; omega
      obtain ⟨b0, o0, ak, ck, rfl, hb0, hc, hlk⟩ := HL.out.row k (by rw [← HN.out]; exact hlt)
      have hjk := HJ.out k (by rw [← HN.out]; exact hlt)
      obtain ⟨b1, o1, rfl, hb1, hd⟩ := hlk.row j hjk
      have hc2 := (hI.out.2.cell (p := ⟨b0, o0 + k, none⟩) hb0).trans hc
      have hd2 := (hI.out.2.cell (p := ⟨b1, o1 + j, none⟩) hb1).trans hd
      rw [HG.out k hlt] at hd2
      have hjk2 : (j : Int) < ((rat rows k).length : Int) := by omega
      have c1 := hI.out.1.cell hlt
      have y1 := hI.out.1.frozen k
      have HA2 := hid hI.out.1.next
      have HBL := hid (hI.out.2.setCell (p := ⟨w.heap.size, k, none⟩) (by simp) (.int .i64 (G k)))
      generalize (rat rows k).length = L at *
      generalize G k = y at *
      generalize fll G (fun _ => 0) k k = y0 at *
      clear hI hc hd hlk
      go_wp2_with fail
      go_roundw
      case rel => exact ⟨k + 1, by omega, by go_num, HA2.out, HBL.out⟩
      case measure => simp [intOf]; omega
    · obtain rfl : k = n := by omega
      have hlt2 : ¬ (k : Int) < (k : Int) := by omega
      have HE : Hid (ArrI wr w.heap.size 3 k G ∧ Below w.heap.size w wr) := ⟨hI.out.1.congr (fun j hj => fll_all hj), hI.out.2⟩
      clear hI
      go_wp2_with fail
      go_ret
      exact ⟨rfl, HE.out⟩

set_option maxRecDepth 100000 in
set_option maxHeartbeats 1000000 in
/-- each column asked -/
theorem pacross_any (F cap m : Nat) (caps : Array Value) (A : List Int → Int) (a : Option Addr) (rows : List (List Int)) (w : World) (h1 : 1 ≤ rows.length) (hn : rows.length ≤ 17592186044000) (hm : m ≤ 17592186044000) (hw : ∀ k, k < rows.length → (rat rows k).length = m) (hl : LstR w.heap.size w a cap rows)
    (hcf : ∀ (args : Array Value) (w1 : World), (callFunc F args).run Tryz.prog w1 = .ok (.enter F args) w1)
    (HQ : ∀ (W : World) (g j : Nat), Below w.heap.size w W → j < m → ArrI W g 3 rows.length (zat (pgc rows j)) → Calls Tryz.prog F (#[.slice (some ⟨g, 0, none⟩) rows.length rows.length] ++ caps) W fun e w' => e = .returned (.int .i64 (A (pgc rows j))) ∧ Below W.heap.size W w') :
    Calls Tryz.prog 41 #[.slice a rows.length cap, .func (.func F) #[] caps] w fun e w' => e = .returned (.slice (some ⟨w.heap.size, 0, none⟩) m m) ∧ ArrI w' w.heap.size 3 m (fun j => A (pgc rows j)) ∧ Below w.heap.size w w' := by
  have HCO : Hid (∀ (W : World) (j : Nat), Below w.heap.size w W → j < m → Calls Tryz.prog 100 #[.slice a rows.length cap, .int .i64 (j : Int)] W fun e w' => e = .returned (.slice (some ⟨W.heap.size, 0, none⟩) rows.length rows.length) ∧ ArrI w' W.heap.size 3 rows.length (zat (pgc rows j)) ∧ Below W.heap.size W w') :=
    fun W j hW hj => column_any cap j a rows W hn (fun k hk => by rw [hw k hk]; exact hj) ((hl.below hW).mono hW.size)
  have HQQ := hid HQ
  obtain ⟨b0, o0, a0, c0, rfl, hb0, hc0, _⟩ := hl.row 0 (by omega)
  rw [hw 0 (by omega), Nat.add_zero] at hc0
  obtain ⟨n, hnn⟩ : ∃ n, n = rows.length := ⟨_, rfl⟩
  simp only [← hnn] at HCO HQQ h1 hn ⊢
  have h1' : (0 : Int) < (n : Int) := by omega
  obtain ⟨G, hG⟩ : ∃ G : Nat → Int, G = fun j => A (pgc rows j) := ⟨_, rfl⟩
  rw [← hG]
  have HG : Hid (∀ k, A (pgc rows k) = G k) := fun k => by rw [hG]
  have hmk2 := fun w => run_make_row' (P := Tryz.prog) 23 3 (.int .i64 0) 8 Tryz.underlying23 Tryz.infoInt rfl .i64 .i64 m (by omega) (by omega) w
  clear hl hw hnn hG HQ
  go_enter Tryz.func41, Tryz.ntmps41
  go_wp2_with fail
  go_loopw [6, 14] (fun _ iv wr => ∃ k : Nat, k ≤ m ∧ iv = .int .i64 k ∧ Hid (ArrI wr w.heap.size 3 m (fll G (fun _ => 0) k) ∧ Below w.heap.size w wr)) (fun _ iv _ => m - (intOf iv).toNat)
  case atStart => exact ⟨0, by omega, rfl, by rw [fll_zero]; exact World.rowIs_made _ _ _ _, (Below.refl _ _).alloc (Nat.le_refl _) _⟩
  case round =>
    obtain ⟨k, hk, rfl, hI⟩ := hrel
    by_cases hlt : k < m
    · have hlt2 : (k : Int) < (m : Int) := by omega
      have hks : IntKind.i64.wrap ((k : Int) + 1) = (k : Int) + 1 := by rw [IntKind.wrap_i64]; omega
      go_wp2_with fail
      refine (HCO.out wr k hI.out.2 hlt).mono ?_
      rintro e w1 ⟨rfl, har, hb1⟩
      have HQ1 := hid (HQQ.out w1 wr.heap.size k (hI.out.2.trans (hb1.mono hI.out.2.size)) hlt har)
      rw [HG.out k] at HQ1
      have HA1 : Hid (ArrI w1 w.heap.size 3 m (fll G (fun _ => 0) k)) := hI.out.1.below hb1 hI.out.1.lt
      have HB1 : Hid (Below w.heap.size w w1) := hI.out.2.trans (hb1.mono hI.out.2.size)
      clear hI har hb1
      go_wp2_with fail
      refine HQ1.out.mono ?_
      rintro e w2 ⟨rfl, hb2⟩
      have hA := HA1.out.below hb2 HA1.out.lt
      have c1 := hA.cell hlt
      have y1 := hA.frozen k
      have HA2 := hid hA.next
      have HBL := hid ((HB1.out.trans (hb2.mono HB1.out.size)).setCell (p := ⟨w.heap.size, k, none⟩) (by simp) (.int .i64 (G k)))
      generalize G k = y at *
      generalize fll G (fun _ => 0) k k = y0 at *
      clear hA hb2 HA1 HB1 HQ1
      go_wp2_with fail
      go_roundw
      case rel => exact ⟨k + 1, by omega, by go_num, HA2.out, HBL.out⟩
      case measure => simp [intOf]; omega
    · obtain rfl : k = m := by omega
      have hlt2 : ¬ (k : Int) < (k : Int) := by omega
      have HE : Hid (ArrI wr w.heap.size 3 k G ∧ Below w.heap.size w wr) := ⟨hI.out.1.congr (fun j hj => fll_all hj), hI.out.2⟩
      clear hI
      go_wp2_with fail
      go_ret
      exact ⟨rfl, HE.out⟩

end Go.Proofs.YtpgnabmkfkcogaaGreatDoor

namespace Go.Proofs.YtpgnabmkfkcogaaGreatDoor
open Go.RowKit Pol

/-! ## 0 at given points alone -/
theorem ps_lin (x y : Int) : ps (lin y) x 2 = x - y := by simp [ps, lin, sub, sh, sc, Pol.one, Int.pow_succ]; omega
/-! ## the way back to the polynomial -/
end Go.Proofs.YtpgnabmkfkcogaaGreatDoor

namespace Go.Proofs.YtpgnabmkfkcogaaGreatDoor
open Go.RowKit

/-- a domain that was made, as it lies in a world -/
structure DO (w : World) (p b d n : Nat) (r s : Int) : Prop where
  pr : Num.Prime p
  h3 : 3 ≤ p
  hm : p ≤ 2147483647
  hp : w.cell? ⟨b, 0, none⟩ = some (.int .i64 p)
  da : DomAt w d b n r s
  hk : ∃ k, k ≤ 16 ∧ n = 2 ^ k
  hr0 : 0 ≤ r
  hr1 : r < p
  ord : Dom.Ord p r n
  hs0 : 0 ≤ s
  hs1 : s < p
  hsd : ¬ (p : Int) ∣ s

theorem DO.below {w w' : World} {p b d n n0 : Nat} {r s : Int} (h : DO w p b d n r s) (e : Below n0 w w') (hb : b < n0) (hd : d < n0) : DO w' p b d n r s :=
  ⟨h.pr, h.h3, h.hm, (e.cell (p := ⟨b, 0, none⟩) hb).trans h.hp, h.da.below e hd, h.hk, h.hr0, h.hr1, h.ord, h.hs0, h.hs1, h.hsd⟩
theorem DO.blt {w : World} {p b d n : Nat} {r s : Int} (h : DO w p b d n r s) : b < w.heap.size := heap_lt h.hp
theorem DO.dlt {w : World} {p b d n : Nat} {r s : Int} (h : DO w p b d n r s) : d < w.heap.size := h.da.lt
theorem DO.step {w w' : World} {p b d n : Nat} {r s : Int} (h : DO w p b d n r s) (e : Below w.heap.size w w') : DO w' p b d n r s := h.below e h.blt h.dlt
theorem DO.pos {w : World} {p b d n : Nat} {r s : Int} (h : DO w p b d n r s) : 0 < n ∧ n ≤ 65536 := by
  obtain ⟨k, h1, h2⟩ := h.hk
  have := two_pow_le h1
  have : 0 < 2 ^ k := Nat.pow_pos (by decide)
  omega
/-- the polynomial that has these values -/
def bk (p n : Nat) (r s : Int) (zs : List Int) : List Int := Pol.trim p (ls (coefs p zs n (invn p r) (invn p n) (invn p s)) n)
end Go.Proofs.YtpgnabmkfkcogaaGreatDoor
