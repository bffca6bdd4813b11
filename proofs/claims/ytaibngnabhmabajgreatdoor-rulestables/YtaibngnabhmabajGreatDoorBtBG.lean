/- attestref8.used. attestref8.Table: a row of a step, set in the reference's order; the greatest cell. Package rules: Table, walked. Package rules: Table, where there may be one. attestref8.Table: how it ends, its rows in memory. -/
import Derived.Test.YtaibngnabhmabajGreatDoorBtAZ
import Derived.Test.YtaibngnabhmabajGreatDoorBtBF
import Derived.Test.YtaibngnabhmabajGreatDoorBtBA
namespace Go.Proofs.YtaibngnabhmabajGreatDoor
open Go.RowKit

theorem mem_allc {R : List (List Int)} {a : Int} : a ∈ allc R ↔ ∃ k, k < R.length ∧ (zat (rat R k) 3 = a ∨ zat (rat R k) 4 = a ∨ zat (rat R k) 5 = a) := by
  unfold allc
  rw [List.mem_flatMap]
  constructor
  · rintro ⟨r, hr, h⟩
    obtain ⟨k, hk, rfl⟩ := List.mem_iff_getElem.1 hr
    refine ⟨k, hk, ?_⟩
    have e : rat R k = R[k] := by simp [rat, hk]
    rw [e]
    unfold rc3 at h
    simp only [List.mem_cons, List.not_mem_nil, or_false] at h
    rcases h with h | h | h
    · exact .inl h.symm
    · exact .inr (.inl h.symm)
    · exact .inr (.inr h.symm)
  · rintro ⟨k, hk, h⟩
    refine ⟨rat R k, by simp [rat, hk], ?_⟩
    unfold rc3
    simp only [List.mem_cons, List.not_mem_nil, or_false]
    rcases h with h | h | h
    · exact .inl h.symm
    · exact .inr (.inl h.symm)
    · exact .inr (.inr h.symm)

set_option maxRecDepth 100000 in
set_option maxHeartbeats 2000000 in
theorem rused_any (c : Nat) (ad : Option Addr) (R : List (List Int)) (a : Int) (w : World) (hn : R.length ≤ 100000) (h20 : ∀ k, k < R.length → 20 ≤ (rat R k).length) (hL : LstR w.heap.size w ad c R) :
    Calls Tryz.prog 54 #[.slice ad R.length c, .int .i64 a] w fun e w' => e = .returned (.bool (decide (a ∈ allc R))) ∧ Below w.heap.size w w' := by
  have HL := hid hL
  have H20 := hid h20
  have HME := hid (fun (k : Nat) (hk : k < R.length) (h : zat (rat R k) 3 = a ∨ zat (rat R k) 4 = a ∨ zat (rat R k) 5 = a) => decide_eq_true (mem_allc.2 ⟨k, hk, h⟩))
  obtain ⟨n, hn'⟩ : ∃ n, n = R.length := ⟨_, rfl⟩
  have HN := hid hn'
  rw [← hn'] at hn ⊢
  clear hL hn' h20
  go_enter Tryz.func54, Tryz.ntmps54
  go_wp2_with fail
  go_loopw [5] (fun iv wr => ∃ k : Nat, k ≤ n ∧ iv = .int .i64 k ∧ Hid (∀ j, j < k → ¬ (zat (rat R j) 3 = a ∨ zat (rat R j) 4 = a ∨ zat (rat R j) 5 = a)) ∧ Hid (Below w.heap.size w wr)) (fun iv _ => n - (intOf iv).toNat)
  case atStart => exact ⟨0, Nat.zero_le _, rfl, fun j hj => absurd hj (Nat.not_lt_zero _), Below.refl _ _⟩
  case round =>
    obtain ⟨k, hk, rfl, HNO, HBw⟩ := hrel
    by_cases hlt : k < n
    · have hlt2 : (k : Int) < (n : Int) := by omega
      have hks : IntKind.i64.wrap ((k : Int) + 1) = (k : Int) + 1 := by rw [IntKind.wrap_i64]; omega
      have hkR : k < R.length := by have := HN.out; omega
      obtain ⟨b, o, ak, ck, rfl, hb, c0, hlk⟩ := HL.out.row k hkR
      replace c0 := (HBw.out.cell (p := ⟨b, o + k, none⟩) hb).trans c0
      have h20 := H20.out k hkR
      obtain ⟨g, q, rfl, hg, d3⟩ := hlk.row 3 (by omega)
      obtain ⟨g', q', e1, _, d4⟩ := hlk.row 4 (by omega)
      injection e1 with e1; injection e1 with e1 e2; subst e1 e2
      obtain ⟨g', q', e1, _, d5⟩ := hlk.row 5 (by omega)
      injection e1 with e1; injection e1 with e1 e2; subst e1 e2
      replace d3 := (HBw.out.cell (p := ⟨g, q + 3, none⟩) hg).trans d3
      replace d4 := (HBw.out.cell (p := ⟨g, q + 4, none⟩) hg).trans d4
      replace d5 := (HBw.out.cell (p := ⟨g, q + 5, none⟩) hg).trans d5
      have l3 : (3 : Int) < ((rat R k).length : Int) := by omega
      have l4 : (4 : Int) < ((rat R k).length : Int) := by omega
      have l5 : (5 : Int) < ((rat R k).length : Int) := by omega
      have HMK := hid (HME.out k hkR)
      have HNK : Hid (¬ (zat (rat R k) 3 = a ∨ zat (rat R k) 4 = a ∨ zat (rat R k) 5 = a) → ∀ j, j < k + 1 → ¬ (zat (rat R j) 3 = a ∨ zat (rat R j) 4 = a ∨ zat (rat R j) 5 = a)) := fun h j hj => by
        by_cases e : j = k
        · subst e; exact h
        · exact HNO.out j (by omega)
      clear hlk h20 HNO
      generalize zat (rat R k) 3 = x3 at *
      generalize zat (rat R k) 4 = x4 at *
      generalize zat (rat R k) 5 = x5 at *
      generalize (rat R k).length = m at *
      by_cases q3 : x3 = a
      · have b3 : (x3 == a) = true := by simp [q3]
        have HT := hid (HMK.out (.inl q3))
        clear q3 HMK HNK
        go_wp2_with fail
        go_ret
        exact ⟨by simpa using of_decide_eq_true HT.out, HBw.out⟩
      · have b3 : (x3 == a) = false := by simp [q3]
        by_cases q4 : x4 = a
        · have b4 : (x4 == a) = true := by simp [q4]
          have HT := hid (HMK.out (.inr (.inl q4)))
          clear q3 q4 HMK HNK
          go_wp2_with fail
          go_ret
          exact ⟨by simpa using of_decide_eq_true HT.out, HBw.out⟩
        · have b4 : (x4 == a) = false := by simp [q4]
          by_cases q5 : x5 = a
          · have b5 : (x5 == a) = true := by simp [q5]
            have HT := hid (HMK.out (.inr (.inr q5)))
            clear q3 q4 q5 HMK HNK
            go_wp2_with fail
            go_ret
            exact ⟨by simpa using of_decide_eq_true HT.out, HBw.out⟩
          · have b5 : (x5 == a) = false := by simp [q5]
            have HT := hid (HNK.out (by rintro (h | h | h); exact q3 h; exact q4 h; exact q5 h))
            clear q3 q4 q5 HMK HNK
            go_wp2_with fail
            go_roundw
            case rel => exact ⟨k + 1, by omega, by go_num, HT, HBw⟩
            case measure => simp [intOf]; omega
    · obtain rfl : k = n := by omega
      have HF : Hid (decide (a ∈ allc R) = false) := by
        unfold Hid
        rw [decide_eq_false_iff_not]
        intro h
        obtain ⟨j, hj, h⟩ := mem_allc.1 h
        exact HNO.out j (by have := HN.out; omega) h
      go_wp2_with fail
      go_ret
      exact ⟨by simpa using of_decide_eq_false HF.out, HBw.out⟩

end Go.Proofs.YtaibngnabhmabajGreatDoor

namespace Go.Proofs.YtaibngnabhmabajGreatDoor
open Go.RowKit Go.Maps

/-- a row ahead of its cells -/
def rw3 (nL : Nat) (s : List Int) : List Int := (((List.replicate (20 + nL) (0 : Int)).set 0 (zat s 1)).set 1 (zat s 2)).set 2 (zat s 3)
/-- .. with so many of its cells -/
def rwj (nL : Nat) (s : List Int) : Nat → List Int
  | 0 => rw3 nL s
  | j + 1 => ((rwj nL s j).set (3 + j) (zat s (4 + j))).set (7 + j) (zat s (7 + j))
theorem rwj_len (nL : Nat) (s : List Int) : ∀ j, (rwj nL s j).length = 20 + nL
  | 0 => by simp [rwj, rw3]
  | j + 1 => by simp [rwj, rwj_len nL s j]
theorem rwj_srow (p nL : Nat) (op : Int) (s : List Int) : ((rwj nL s 3).set 11 (hlp p op (zat s 7) (zat s 8))).set (20 + (zat s 0).toNat) 1 = srow p nL op s := by
  unfold srow
  congr 2
  show ((((((rw3 nL s).set 3 (zat s 4)).set 7 (zat s 7)).set 4 (zat s 5)).set 8 (zat s 8)).set 5 (zat s 6)).set 9 (zat s 9) = _
  rw [List.set_comm (zat s 7) (zat s 5) (show (7 : Nat) ≠ 4 by decide), List.set_comm (zat s 8) (zat s 6) (show (8 : Nat) ≠ 5 by decide), List.set_comm (zat s 7) (zat s 6) (show (7 : Nat) ≠ 5 by decide)]
  rfl

/-- the greatest of numbers, or 0 -/
def TopOk (l : List Int) (t : Int) : Prop := 0 ≤ t ∧ (∀ a, a ∈ l → a ≤ t) ∧ (t = 0 ∨ t ∈ l)
theorem topOk_nil : TopOk [] 0 := ⟨Int.le_refl _, fun _ h => (by cases h), .inl rfl⟩
theorem TopOk.keep {l : List Int} {t x : Int} (h : TopOk l t) (hx : ¬ t < x) : TopOk (l ++ [x]) t :=
  ⟨h.1, fun a ha => by
    rcases List.mem_append.1 ha with h1 | h1
    · exact h.2.1 a h1
    · rw [List.mem_singleton] at h1; omega, h.2.2.imp_right fun e => List.mem_append.2 (.inl e)⟩
theorem TopOk.up {l : List Int} {t x : Int} (h : TopOk l t) (hx : t < x) : TopOk (l ++ [x]) x :=
  ⟨by have := h.1; omega, fun a ha => by
    rcases List.mem_append.1 ha with h1 | h1
    · have := h.2.1 a h1; omega
    · rw [List.mem_singleton] at h1; omega, .inr (by simp)⟩
/-- the cells of a step ahead of j -/
def cj (s : List Int) : Nat → List Int
  | 0 => []
  | j + 1 => cj s j ++ [zat s (4 + j)]
theorem zat_other {l : List Int} {k j : Nat} {x : Int} (h : j ≠ k) : zat (l.set k x) j = zat l j := by
  unfold zat
  rw [List.getElem?_set_ne (fun e => h e.symm)]
theorem zat_same {l : List Int} {k : Nat} {x : Int} (h : k < l.length) : zat (l.set k x) k = x := by rw [zat_set h, if_pos rfl]
theorem srow_cells (p nL : Nat) (op : Int) (s : List Int) : rc3 (srow p nL op s) = cj s 3 := by
  have hlen : (List.replicate (20 + nL) (0 : Int)).length = 20 + nL := by simp
  have e3 : zat (srow p nL op s) 3 = zat s 4 := by
    unfold srow
    rw [zat_other (by omega), zat_other (by omega), zat_other (by omega), zat_other (by omega), zat_other (by omega), zat_other (by omega), zat_other (by omega)]
    exact zat_same (by simp only [List.length_set, hlen]; omega)
  have e4 : zat (srow p nL op s) 4 = zat s 5 := by
    unfold srow
    rw [zat_other (by omega), zat_other (by omega), zat_other (by omega), zat_other (by omega), zat_other (by omega), zat_other (by omega)]
    exact zat_same (by simp only [List.length_set, hlen]; omega)
  have e5 : zat (srow p nL op s) 5 = zat s 6 := by
    unfold srow
    rw [zat_other (by omega), zat_other (by omega), zat_other (by omega), zat_other (by omega), zat_other (by omega)]
    exact zat_same (by simp only [List.length_set, hlen]; omega)
  unfold rc3
  rw [e3, e4, e5]
  rfl
/-- the holes, as the reference finds them -/
theorem tho_filter {p : Nat} {L : List InsZ} {st : List (List Int)} {n : Nat} (h3 : 3 ≤ p) (hst : ∀ s, s ∈ st → StB p L.length s) (h0 : 0 < st.length) (hn : 0 < n) {t : Int} (ht : TopOk (allc (shns p L st n)) t) :
    tho p L st n = (gap 0 t).filter fun a => !decide (a ∈ allc (shns p L st n)) := by
  have hon := once_compact (allc (shns p L st n))
  have hb : ∀ a, a ∈ allc (shns p L st n) → 0 ≤ a := fun a ha => (allc_shns h3 hst h0 ha).1
  have hne : ∃ a, a ∈ allc (shns p L st n) := by
    have : 0 < (allc (shns p L st n)).length := by rw [allc_len, shns_len]; omega
    exact List.exists_mem_of_length_pos this
  obtain ⟨a0, ha0⟩ := hne
  have htm : t ∈ allc (shns p L st n) := by
    rcases ht.2.2 with e | e
    · have h1 := ht.2.1 a0 ha0
      have h2 := hb a0 ha0
      have : a0 = t := by omega
      rw [← this]; exact ha0
    · exact e
  have := hol_filter (ascC (shns p L st n)) 0 t hon.1 (fun a ha => hb a ((hon.2 a).1 ha)) (fun e => absurd ((hon.2 a0).2 ha0) (by show a0 ∉ ascC _; rw [e]; simp)) (fun a ha => ht.2.1 a ((hon.2 a).1 ha)) (fun _ => (hon.2 t).2 htm)
  show hol (ascC (shns p L st n)) 0 = _
  rw [this]
  apply List.filter_congr
  intro a _
  have : (a ∈ ascC (shns p L st n)) ↔ a ∈ allc (shns p L st n) := hon.2 a
  simp only [this]

end Go.Proofs.YtaibngnabhmabajGreatDoor

namespace Go.Proofs.YtaibngnabhmabajGreatDoor
open Go.RowKit Go.Maps

/-- a run's outcome: what the first cell of its last step is -/
def outS (st : List (List Int)) : Int := zat (rat st (st.length - 1)) 7
/-- the steps of a row of steps, cell by cell -/
theorem StR.at {base : Nat} {w : World} {v : Value} {l : List (List Int)} (h : StR base w v l) (h0 : 0 < l.length) (h10 : ∀ s, s ∈ l → s.length = 10) : ∃ g cap, v = .slice (some ⟨g, 0, none⟩) l.length cap ∧ l.length ≤ maxLen ∧ g < w.heap.size ∧ ∀ i j, i < l.length → j < 10 → w.cell? ⟨g, i * 10 + j, none⟩ = some (.int .i64 (zat (rat l i) j)) := by
  have h' := h
  rcases h.2 with ⟨_, hn⟩ | ⟨g, cap, cur, rfl, hb, hg, hn, hm, hs, ht⟩
  · omega
  · refine ⟨g, cap, rfl, by omega, (Array.getElem?_eq_some_iff.1 hg).1, fun i j hi hj => ?_⟩
    have := World.ownsRow.cells h' (g := g) rfl (i * 10 + j) _ (stvs_at l h10 i j hi hj)
    have hadd : (⟨g, 0, none⟩ : Addr).add (i * 10 + j) = ⟨g, 0 + (i * 10 + j), none⟩ := by unfold Addr.add; split <;> simp_all
    rw [hadd, Nat.zero_add] at this
    exact this

/-- what rules.Table gives -/
def PtR (p : Nat) (size : Int) (L : List InsZ) (n : Int) (w : World) (e : Ending) (w' : World) : Prop := Below w.heap.size w w' ∧
  if n < 1 ∨ 512 < n ∨ 64 < L.length then e = .returned (.tuple #[.slice none 0 0, .int .i64 0, errV 2])
  else if fz6 (p : Int) size L.length (n - 1) ≠ 0 then e = .returned (.tuple #[.slice none 0 0, .int .i64 0, errV (fz6 (p : Int) size L.length (n - 1))])
  else match mwalk p size L (n - 1).toNat with
    | .bad z => e = .returned (.tuple #[.slice none 0 0, .int .i64 0, errV z])
    | .good st _ => if n.toNat < (tho p L st n.toNat).length then e = .returned (.tuple #[.slice none 0 0, .int .i64 0, errV 9])
      else ∃ T G K, TabG p L st n.toNat T ∧ e = .returned (.tuple #[.slice (some ⟨G, 0, none⟩) T.length T.length, .int .i64 (outS st), .nilIface]) ∧ Tbl w.heap.size G K w' T

set_option maxRecDepth 100000 in
set_option maxHeartbeats 4000000 in
/-- no such table: its size -/
theorem ptable_size (p b : Nat) (size n : Int) (aL : Option Addr) (cL : Nat) (L : List InsZ) (w : World) (hnL : L.length ≤ 281474976710656) (hno : n < 1 ∨ 512 < n ∨ 64 < L.length) :
    Calls Tryz.prog 24 #[.pointer (some ⟨b, 0, none⟩), .agg #[.int .i64 size, .slice aL L.length cL], .int .i64 n] w (PtR p size L n w) := by
  obtain ⟨W0, hW0⟩ : ∃ W0, W0 = w.alloc (.cells #[.int .i64 size, .slice aL L.length cL] 47) := ⟨_, rfl⟩
  have hb0 : Below w.heap.size w W0 := by rw [hW0]; exact (Below.refl _ _).alloc (Nat.le_refl _) _
  have hs0 : W0.heap[w.heap.size]? = some (.cells #[.int .i64 size, .slice aL L.length cL] 47 (0, 0)) := by rw [hW0]; exact heap_alloc_new w _
  have k1 : W0.cell? ⟨w.heap.size, 1, none⟩ = some (.slice aL L.length cL) := by simp [World.cell?, hs0]
  have HB0 := hid hb0
  have HNO := hid hno
  have HR : Hid (∀ e w', Below w.heap.size w w' → e = .returned (.tuple #[.slice none 0 0, .int .i64 0, .iface 80 (.int .i64 2)]) → PtR p size L n w e w') := fun e w' h1 h2 => ⟨h1, by rw [if_pos HNO.out]; exact h2⟩
  clear hb0 hs0
  generalize L.length = nL at *
  by_cases h1 : n < 1
  · clear HNO hno
    go_enter Tryz.func24, Tryz.ntmps24
    go_wp2_with fail
    rw [← hW0]
    clear hW0
    go_wp2_with fail
    go_ret3
    exact HR.out _ _ HB0.out rfl
  · by_cases h2 : 512 < n
    · clear HNO hno
      go_enter Tryz.func24, Tryz.ntmps24
      go_wp2_with fail
      rw [← hW0]
      clear hW0
      go_wp2_with fail
      go_ret3
      exact HR.out _ _ HB0.out rfl
    · have h3 : (64 : Int) < (nL : Int) := by omega
      clear HNO hno
      go_enter Tryz.func24, Tryz.ntmps24
      go_wp2_with fail
      rw [← hW0]
      clear hW0
      go_wp2_with fail
      go_ret3
      exact HR.out _ _ HB0.out rfl

end Go.Proofs.YtaibngnabhmabajGreatDoor

namespace Go.Proofs.YtaibngnabhmabajGreatDoor
open Go.RowKit Go.Maps

theorem neEr (T : TypeId) (v : Value) (w : World) : (binOp BinOp.neq 28 (.iface T v) .nilIface).run Tryz.prog w = .ok (.bool true) w := by kernel_rfl
theorem neNr (w : World) : (binOp BinOp.neq 28 .nilIface .nilIface).run Tryz.prog w = .ok (.bool false) w := by kernel_rfl

theorem Tbl.mono {base base' G : Nat} {K : Nat → Nat} {w : World} {R : List (List Int)} (h : Tbl base G K w R) (e : base' ≤ base) : Tbl base' G K w R :=
  ⟨h.lt, h.out, h.row, h.inj, ⟨Nat.le_trans e h.new.1, fun k hk => ⟨Nat.le_trans e (h.new.2 k hk).1, (h.new.2 k hk).2⟩⟩, h.soft⟩

set_option maxRecDepth 100000 in
set_option maxHeartbeats 4000000 in
theorem ptable_yes (p b : Nat) (size n : Int) (aL : Option Addr) (cL : Nat) (L : List InsZ) (w : World) (h3 : 3 ≤ p) (h4 : p ≤ 2147483647) (hpr : Num.Prime p) (hp : w.cell? ⟨b, 0, none⟩ = some (.int .i64 p)) (hL : LstI w.heap.size w aL cL L) (hIB : InsB L) (hyes : ¬ (n < 1 ∨ 512 < n ∨ 64 < L.length)) :
    Calls Tryz.prog 24 #[.pointer (some ⟨b, 0, none⟩), .agg #[.int .i64 size, .slice aL L.length cL], .int .i64 n] w (PtR p size L n w) := by
  have hmx : Tryz.prog.follows .mixedOrders = true := by kernel_rfl
  obtain ⟨m, rfl⟩ := Int.eq_ofNat_of_zero_le (show 0 ≤ n by omega)
  have hm1 : 1 ≤ m := by omega
  have hm2 : m ≤ 512 := by omega
  have hL64 : L.length ≤ 64 := by omega
  obtain ⟨W0, hW0⟩ : ∃ W0, W0 = w.alloc (.cells #[.int .i64 size, .slice aL L.length cL] 47) := ⟨_, rfl⟩
  have hb0 : Below w.heap.size w W0 := by rw [hW0]; exact (Below.refl _ _).alloc (Nat.le_refl _) _
  have hz : W0.heap.size = w.heap.size + 1 := by rw [hW0]; simp
  have hs0 : W0.heap[w.heap.size]? = some (.cells #[.int .i64 size, .slice aL L.length cL] 47 (0, 0)) := by rw [hW0]; exact heap_alloc_new w _
  have hcode : ∀ W, Below W0.heap.size W0 W → W.cell? ⟨w.heap.size, 0, none⟩ = some (.int .i64 size) ∧ W.cell? ⟨w.heap.size, 1, none⟩ = some (.slice aL L.length cL) := fun W h => by
    have := (h.block w.heap.size (by omega)).trans hs0
    exact ⟨by simp [World.cell?, this], by simp [World.cell?, this]⟩
  have hpW : ∀ W, Below W0.heap.size W0 W → W.cell? ⟨b, 0, none⟩ = some (.int .i64 p) := fun W h => ((hb0.trans (h.mono hb0.size)).cell (p := ⟨b, 0, none⟩) (World.block_lt_of_cell? _ _ hp)).trans hp
  have hLW : ∀ W, Below W0.heap.size W0 W → LstI W.heap.size W aL cL L := fun W h => (hL.below (hb0.trans (h.mono hb0.size))).mono (hb0.trans (h.mono hb0.size)).size
  have HB0 := hid hb0
  have HPW := hid hpW
  have HLW := hid hLW
  have HCO := hid hcode
  have HWK := hid (pwalk_any p b size ((m : Int) - 1) aL cL L W0 h3 h4 hpr (hpW W0 (Below.refl _ _)) (by omega) (hLW W0 (Below.refl _ _)) hIB)
  obtain ⟨k0, k1⟩ := hcode W0 (Below.refl _ _)
  obtain ⟨nL, hnl⟩ : ∃ nL, nL = L.length := ⟨_, rfl⟩
  have HNL := hid hnl
  have HY := hid hyes
  rw [← hnl] at hW0 k1 hL64 ⊢
  rw [← hnl] at HWK HCO
  have t1 : ¬ (m : Int) < 1 := by omega
  have t2 : ¬ (512 : Int) < (m : Int) := by omega
  have t3 : ¬ (64 : Int) < (nL : Int) := by omega
  have wm : IntKind.i64.wrap ((m : Int) - 1) = (m : Int) - 1 := by rw [IntKind.wrap_i64]; omega
  clear hb0 hs0 hcode hpW hLW hnl hyes hL hp hz
  go_enter Tryz.func24, Tryz.ntmps24
  go_wp2_with fail
  rw [← hW0]
  clear hW0
  go_wp2_with fail
  refine HWK.out.mono ?_
  rintro e w1 hwl
  obtain ⟨hb1, hwl⟩ := hwl
  have HB1 := hid hb1
  have hcase : (∃ z, z ≠ 0 ∧ e = .returned (.tuple #[.slice none 0 0, .iface 80 (.int .i64 z)]) ∧ ∀ e' w', Below w.heap.size w w' → e' = .returned (.tuple #[.slice none 0 0, .int .i64 0, .iface 80 (.int .i64 z)]) → PtR p size L (m : Int) w e' w') ∨
      (∃ st v, e = .returned (.tuple #[v, .nilIface]) ∧ StR W0.heap.size w1 v st ∧ (∀ s, s ∈ st → StB p L.length s) ∧ 0 < st.length ∧ ∀ e' w', Below w.heap.size w w' → (if m < (tho p L st m).length then e' = .returned (.tuple #[.slice none 0 0, .int .i64 0, errV 9]) else ∃ T G K, TabG p L st m T ∧ e' = .returned (.tuple #[.slice (some ⟨G, 0, none⟩) T.length T.length, .int .i64 (outS st), .nilIface]) ∧ Tbl w.heap.size G K w' T) → PtR p size L (m : Int) w e' w') := by
    by_cases hz : fz6 (p : Int) size L.length ((m : Int) - 1) ≠ 0
    · rw [if_pos hz, errV_nz hz] at hwl
      refine .inl ⟨_, hz, hwl, fun e' w' h1 h2 => ⟨h1, ?_⟩⟩
      rw [if_neg HY.out, if_pos hz, errV_nz hz]
      exact h2
    · rw [if_neg hz] at hwl
      cases hX : mwalk p size L ((m : Int) - 1).toNat with
      | bad z =>
        rw [hX] at hwl
        have hz0 := mgo_bad _ _ _ _ _ _ _ hX
        refine .inl ⟨z, hz0, by rw [← errV_nz hz0]; exact hwl, fun e' w' h1 h2 => ⟨h1, ?_⟩⟩
        rw [if_neg HY.out, if_neg hz, hX]
        show e' = _
        rw [errV_nz hz0]
        exact h2
      | good st cs =>
        rw [hX] at hwl
        obtain ⟨v, h5, h6⟩ := hwl
        obtain ⟨h7, h8⟩ := mwalk_steps h3 hX
        refine .inr ⟨st, v, h5, h6, h7, h8, fun e' w' h1 h2 => ⟨h1, ?_⟩⟩
        rw [if_neg HY.out, if_neg hz, hX]
        show if (m : Int).toNat < _ then _ else _
        rw [Int.toNat_natCast]
        exact h2
  clear hwl HWK
  rcases hcase with ⟨z, hz, rfl, hR⟩ | ⟨st, v, rfl, hst, hsb, hs0, hR⟩
  · have HR := hid hR
    have HBW := hid (HB0.out.trans (hb1.mono HB0.out.size))
    have hne := fun W => neEr 80 (.int .i64 z) W
    clear hR hb1 HB1
    go_wp2_with fail
    go_ret3
    exact HR.out _ _ HBW.out rfl
  · obtain ⟨g, cap, rfl, hsm, hgl, hcel⟩ := hst.at hs0 (fun s h => (hsb s h).1)
    have HSH := hid (pshown_any p b cL g cap m size aL L st w1 hpr h3 h4 (HPW.out w1 hb1) (by have := HNL.out; omega) (HLW.out w1 hb1) hsb hs0 hsm hcel hm1 hm2)
    rw [← HNL.out] at HSH
    obtain ⟨c0, c1⟩ := HCO.out w1 hb1
    have HR := hid hR
    have HSB := hid hsb
    have HCEL := hid hcel
    obtain ⟨ns, hns⟩ : ∃ ns, ns = st.length := ⟨_, rfl⟩
    have HNS := hid hns
    rw [← hns] at HSH hs0 hsm ⊢
    have hne := fun W => neNr W
    clear hst hR hb1 hsb hcel hns
    go_wp2_with fail
    refine HSH.out.mono ?_
    rintro e w2 ⟨G, K, rfl, hT2, hb2⟩
    have hwp : ∀ x, x ∈ allc (shns p L st m) → 0 ≤ x ∧ x ≤ 2147483647 := fun x hx => by have := allc_shns h3 HSB.out (by have := HNS.out; omega) hx; omega
    have hlens : ∀ k, k < (shns p L st m).length → 20 ≤ (rat (shns p L st m) k).length ∧ (rat (shns p L st m) k).length ≤ 100000 := fun k hk => by
      rw [shns_len] at hk
      rw [shns_rat _ _ _ hk, shn_len]
      have := HNL.out
      omega
    have HFH := hid (pholes_any w1.heap.size G K (shns p L st m) w2 (by rw [shns_len]; omega) hlens hb2.size hT2 hwp)
    rw [shns_len] at HFH
    have HB2 := hid (HB1.out.trans (hb2.mono HB1.out.size))
    have HLE := hid hlens
    have HB12 := hid hb2
    clear HSH c0 c1 hT2 hb2 hwp hlens
    go_wp2_with fail
    refine HFH.out.mono ?_
    rintro e w3 ⟨hb3, hcs⟩
    have HB13 := hid (HB12.out.trans (hb3.mono (Nat.le_refl _)))
    have HB3 := hid (HB0.out.trans ((HB1.out.trans (HB13.out.mono HB1.out.size)).mono HB0.out.size))
    rcases hcs with ⟨hful, rfl⟩ | ⟨hfit, rfl, hT3⟩
    · have HFUL : Hid (m < (tho p L st m).length) := hful
      clear hful hb3 HFH
      go_wp2_with fail
      go_ret3
      exact HR.out _ _ HB3.out (by rw [if_pos HFUL.out]; rfl)
    · have HFIT : Hid (¬ m < (tho p L st m).length) := Nat.not_lt.2 hfit
      have HFI2 : Hid ((tho p L st m).length ≤ m) := hfit
      have hT3' : Tbl w1.heap.size G K w3 (fillH (shns p L st m) (tho p L st m)) := hT3
      have HFS := hid (psorted_any p b w1.heap.size G K (fillH (shns p L st m) (tho p L st m)) w3 h3 h4 (HPW.out w3 (HB1.out.trans (HB13.out.mono HB1.out.size))) (by rw [fillH_len, shns_len]; omega) (fun k hk => by
        rw [fillH_len] at hk
        rw [fillH_row_len hk]
        exact HLE.out k hk) (fits_tab h3 h4 (by have := HNL.out; omega) HSB.out (by have := HNS.out; omega)) HB13.out.size hT3')
      rw [fillH_len, shns_len] at HFS
      clear hb3 HFH hT3 hT3' hfit
      go_wp2_with fail
      refine HFS.out.mono ?_
      rintro e w4 ⟨ps, rfl, hso, hT4, hb4⟩
      have hB14 := HB13.out.trans (hb4.mono (Nat.le_refl _))
      have HB4 := hid (HB0.out.trans ((HB1.out.trans (hB14.mono HB1.out.size)).mono HB0.out.size))
      have HTT : Hid (TabG p L st m (fS (fillH (shns p L st m) (tho p L st m)) ps (4 * m))) := ⟨HFI2.out, ps, hso, rfl⟩
      have HT4 := hid (hT4.mono (Nat.le_trans HB0.out.size HB1.out.size))
      obtain ⟨k, hk⟩ : ∃ k, k = ns - 1 := ⟨_, rfl⟩
      have e1 : (ns : Int) - 1 = (k : Int) := by omega
      have w1' : IntKind.i64.wrap (k : Int) = (k : Int) := by unfold maxLen at hsm; rw [IntKind.wrap_i64]; omega
      have lk : (k : Int) < (ns : Int) := by omega
      have cv : w4.cell? ⟨g, k * 10 + 7, none⟩ = some (.int .i64 (outS st)) := by
        have := HCEL.out k 7 (by have := HNS.out; omega) (by omega)
        rw [show outS st = zat (rat st k) 7 by unfold outS; rw [hk, HNS.out]]
        exact (hB14.cell (p := ⟨g, k * 10 + 7, none⟩) hgl).trans this
      have HEND : Hid (∀ w', w'.heap = w4.heap → Below w.heap.size w w' → PtR p size L (m : Int) w (.returned (.tuple #[.slice (some ⟨G, 0, none⟩) m m, .int .i64 (outS st), .nilIface])) w') := fun w' hh hb => by
        refine HR.out _ _ hb ?_
        rw [if_neg HFIT.out]
        refine ⟨_, G, K, HTT.out, by rw [HTT.out.len], HT4.out.keep (by rw [hh]) (fun _ _ => by rw [hh])⟩
      clear hk hso hT4 hb4 hB14 HFS HB12 HB13 HLE
      generalize outS st = ov at *
      go_wp2_with fail
      go_region
      go_wp2_with fail
      go_ret3
      exact HEND.out w4.drew rfl HB4.out.drew

theorem ptable_any (p b : Nat) (size n : Int) (aL : Option Addr) (cL : Nat) (L : List InsZ) (w : World) (h3 : 3 ≤ p) (h4 : p ≤ 2147483647) (hpr : Num.Prime p) (hp : w.cell? ⟨b, 0, none⟩ = some (.int .i64 p)) (hnL : L.length ≤ 281474976710656) (hL : LstI w.heap.size w aL cL L) (hIB : InsB L) :
    Calls Tryz.prog 24 #[.pointer (some ⟨b, 0, none⟩), .agg #[.int .i64 size, .slice aL L.length cL], .int .i64 n] w (PtR p size L n w) := by
  by_cases h : n < 1 ∨ 512 < n ∨ 64 < L.length
  · exact ptable_size p b size n aL cL L w hnL h
  · exact ptable_yes p b size n aL cL L w h3 h4 hpr hp hL hIB h

end Go.Proofs.YtaibngnabhmabajGreatDoor

namespace Go.Proofs.YtaibngnabhmabajGreatDoor
open Go.RowKit Go.Maps

/-- what attestref8.Table gives -/
def RtR (p : Nat) (size : Int) (L : List InsZ) (n : Int) (w : World) (e : Ending) (w' : World) : Prop := Below w.heap.size w w' ∧
  if n < 1 ∨ 512 < n ∨ 64 < L.length then e = .returned (.tuple #[.slice none 0 0, .int .i64 0, .int .i64 2])
  else if fz6 (p : Int) size L.length (n - 1) ≠ 0 then e = .returned (.tuple #[.slice none 0 0, .int .i64 0, .int .i64 (fz6 (p : Int) size L.length (n - 1))])
  else match mwalk p size L (n - 1).toNat with
    | .bad z => e = .returned (.tuple #[.slice none 0 0, .int .i64 0, .int .i64 z])
    | .good st _ => if n.toNat < (tho p L st n.toNat).length then e = .returned (.tuple #[.slice none 0 0, .int .i64 0, .int .i64 9])
      else ∃ T G K cap, TabG p L st n.toNat T ∧ T.length ≤ cap ∧ e = .returned (.tuple #[.slice (some ⟨G, 0, none⟩) T.length cap, .int .i64 (outS st), .int .i64 0]) ∧ Tbl w.heap.size G K w' T
/-- Walk of the reference, for Table -/
theorem rwalk_table {p N : Nat} {size : Int} {aL : Option Addr} {cL : Nat} {L : List InsZ} {w W : World} (h3 : 3 ≤ p) (h4 : p ≤ 2147483647) (hL64 : L.length ≤ 64) (hN1 : 1 ≤ N) (hN2 : N ≤ 512) (hIB : InsB L) (hl : LstI W.heap.size W aL cL L) :
    Calls Tryz.prog 52 #[.int .i64 p, .agg #[.int .i64 size, .slice aL L.length cL], .int .i64 ((N : Int) - 1)] W fun e w1 => Below W.heap.size W w1 ∧
      ((∃ z, z ≠ 0 ∧ e = .returned (.tuple #[.slice none 0 0, .slice none 0 0, .int .i64 z]) ∧ ∀ e' w', Below w.heap.size w w' → e' = .returned (.tuple #[.slice none 0 0, .int .i64 0, .int .i64 z]) → RtR p size L (N : Int) w e' w') ∨
      (∃ st v1 v2, e = .returned (.tuple #[v1, v2, .int .i64 0]) ∧ StR W.heap.size w1 v1 st ∧ (∀ s, s ∈ st → StB p L.length s) ∧ 0 < st.length ∧ ∀ e' w', Below w.heap.size w w' → (if N < (tho p L st N).length then e' = .returned (.tuple #[.slice none 0 0, .int .i64 0, .int .i64 9]) else ∃ T G K cap, TabG p L st N T ∧ T.length ≤ cap ∧ e' = .returned (.tuple #[.slice (some ⟨G, 0, none⟩) T.length cap, .int .i64 (outS st), .int .i64 0]) ∧ Tbl w.heap.size G K w' T) → RtR p size L (N : Int) w e' w')) := by
  have hY : ¬ ((N : Int) < 1 ∨ 512 < (N : Int) ∨ 64 < L.length) := by omega
  by_cases hz : fz6 (p : Int) size L.length ((N : Int) - 1) ≠ 0
  · refine (rwalk_bad p size ((N : Int) - 1) aL L.length cL W (by omega) hz).mono ?_
    rintro e w1 ⟨rfl, hb⟩
    refine ⟨hb, .inl ⟨_, hz, rfl, fun e' w' h1 h2 => ⟨h1, ?_⟩⟩⟩
    rw [if_neg hY, if_pos hz]
    exact h2
  · have hz0 : fz6 (p : Int) size L.length ((N : Int) - 1) = 0 := Decidable.byContradiction hz
    have hfz : 0 ≤ size ∧ size ≤ 65536 ∧ 0 < L.length ∧ L.length ≤ 4096 ∧ L.length ≤ p := by
      unfold fz6 at hz0
      split at hz0
      · omega
      · refine ⟨by omega, by omega, by omega, by omega, by omega⟩
    obtain ⟨k, hk⟩ : ∃ k : Nat, (N : Int) - 1 = (k : Int) := ⟨N - 1, by omega⟩
    have hR := rwalk_any p k cL size aL L W h3 h4 hfz.1 hfz.2.1 hfz.2.2.1 hfz.2.2.2.1 hfz.2.2.2.2 (by omega) hIB hl
    rw [← hk] at hR
    refine hR.mono ?_
    rintro e w1 ⟨hb, he⟩
    refine ⟨hb, ?_⟩
    cases hX : mwalk p size L k with
    | bad z =>
      rw [hX] at he
      refine .inl ⟨z, mgo_bad _ _ _ _ _ _ _ hX, he, fun e' w' h1 h2 => ⟨h1, ?_⟩⟩
      rw [if_neg hY, if_neg hz, hk, Int.toNat_natCast, hX]
      exact h2
    | good st cs =>
      rw [hX] at he
      obtain ⟨v1, v2, h5, h6, _⟩ := he
      obtain ⟨h7, h8⟩ := mwalk_steps h3 hX
      refine .inr ⟨st, v1, v2, h5, h6, h7, h8, fun e' w' h1 h2 => ⟨h1, ?_⟩⟩
      rw [if_neg hY, if_neg hz, hk, Int.toNat_natCast, hX]
      show if (N : Int).toNat < _ then _ else _
      rw [Int.toNat_natCast]
      exact h2

theorem ownsRow_belowR {base size n : Nat} {e : TypeId} {v : Value} {xs : List Value} {w W : World} (h : w.ownsRow base e size v n xs) (hb : Below w.heap.size w W) : W.ownsRow base e size v n xs := by
  refine ⟨h.1, ?_⟩
  rcases h.2 with h1 | ⟨g, cap, cur, h1, h2, h3, h4⟩
  · exact .inl h1
  · exact .inr ⟨g, cap, cur, h1, h2, (hb.block g (Array.getElem?_eq_some_iff.1 h3).1).trans h3, h4⟩
/-- the slices of a table's rows -/
def slcs (K : Nat → Nat) (m i : Nat) : List Value := (List.range i).map fun k => .slice (some ⟨K k, 0, none⟩) m m
/-- one block more -/
def kup (K : Nat → Nat) (i Kn k : Nat) : Nat := if k = i then Kn else K k
theorem slcs_more (K : Nat → Nat) (m i Kn : Nat) : slcs (kup K i Kn) m (i + 1) = slcs K m i ++ [.slice (some ⟨Kn, 0, none⟩) m m] := by
  unfold slcs
  rw [List.range_succ, List.map_append]
  congr 1
  · apply List.map_congr_left
    intro k hk
    rw [List.mem_range] at hk
    rw [kup, if_neg (by omega)]
  · simp [kup]
/-- how far the reference's Table has come with its rows -/
structure RtI (base m i : Nat) (R : List (List Int)) (v : Value) (w1 wr : World) : Prop where
  rows : ∃ K : Nat → Nat, wr.ownsRow base 22 1 v i (slcs K m i) ∧ (∀ k, k < i → IRow (K k) wr (rat R k)) ∧ (∀ j k, j < i → k < i → K j = K k → j = k) ∧ ∀ k, k < i → base ≤ K k ∧ some (K k) ≠ v.ownBlock
  bel : Below base w1 wr
theorem RtI.first {base m : Nat} {R : List (List Int)} {w1 : World} : RtI base m 0 R (.slice none 0 0) w1 w1 :=
  ⟨⟨fun _ => 0, World.ownsRow_nil _ _ _ _, fun _ hk => absurd hk (Nat.not_lt_zero _), fun _ _ hj => absurd hj (Nat.not_lt_zero _), fun _ hk => absurd hk (Nat.not_lt_zero _)⟩, Below.refl _ _⟩
/-- a row more: X the world with the row, Y that with the slice to be appended, Z behind it -/
theorem RtI.more {base m i Kn : Nat} {R : List (List Int)} {v v' : Value} {w1 wr X Y Z : World} (h : RtI base m i R v w1 wr) (hbs : base ≤ wr.heap.size) (hX : Below wr.heap.size wr X) (hr : IRow Kn X (rat R i)) (hK : wr.heap.size ≤ Kn) (hY : Below X.heap.size X Y)
    (K : Nat → Nat) (hk1 : ∀ k, k < i → IRow (K k) wr (rat R k)) (hk2 : ∀ j k, j < i → k < i → K j = K k → j = k) (hk3 : ∀ k, k < i → base ≤ K k ∧ some (K k) ≠ v.ownBlock) (hlt : ∀ b, v.ownBlock = some b → base ≤ b ∧ b < wr.heap.size)
    (hZ : Z.ownsRow base 22 1 v' (i + 1) (slcs K m i ++ [.slice (some ⟨Kn, 0, none⟩) m m])) (hg : Y.grownBy Z v.ownBlock) (hw : v'.ownBlock = v.ownBlock ∨ v'.ownBlock = some Y.heap.size) : RtI base m (i + 1) R v' w1 Z := by
  have hXY : Below wr.heap.size wr Y := hX.trans (hY.mono hX.size)
  have hnb : some Kn ≠ v.ownBlock := fun e => by have := (hlt Kn e.symm).2; omega
  refine ⟨⟨kup K i Kn, by rw [slcs_more]; exact hZ, fun k hk => ?_, fun j k hj hk e => ?_, fun k hk => ?_⟩, ?_⟩
  · unfold kup
    by_cases e : k = i
    · subst e
      rw [if_pos rfl]
      exact (hr.block (hY.block Kn hr.lt)).block (hg.block Kn (Nat.lt_of_lt_of_le hr.lt hY.size) hnb)
    · rw [if_neg e]
      have h1 := hk1 k (by omega)
      exact (h1.block (hXY.block _ h1.lt)).block (hg.block _ (Nat.lt_of_lt_of_le h1.lt hXY.size) (hk3 k (by omega)).2)
  · unfold kup at e
    by_cases e1 : j = i
    · by_cases e2 : k = i
      · omega
      · rw [if_pos e1, if_neg e2] at e; have := (hk1 k (by omega)).lt; omega
    · by_cases e2 : k = i
      · rw [if_neg e1, if_pos e2] at e; have := (hk1 j (by omega)).lt; omega
      · rw [if_neg e1, if_neg e2] at e; exact hk2 j k (by omega) (by omega) e
  · unfold kup
    by_cases e : k = i
    · rw [if_pos e]
      refine ⟨by omega, fun e2 => ?_⟩
      rcases hw with h2 | h2
      · rw [h2] at e2; exact hnb e2
      · rw [h2] at e2; injection e2 with e2; have := hr.lt; have := hY.size; omega
    · rw [if_neg e]
      refine ⟨(hk3 k (by omega)).1, fun e2 => ?_⟩
      rcases hw with h2 | h2
      · rw [h2] at e2; exact (hk3 k (by omega)).2 e2
      · rw [h2] at e2; injection e2 with e2; have := (hk1 k (by omega)).lt; have := hXY.size; omega
  · exact (h.bel.trans (hXY.mono hbs)).grown hg (Nat.le_trans hbs hXY.size) (fun b hb => (hlt b hb).1)
/-- all rows are there: a table -/
theorem RtI.tbl {base m n : Nat} {R : List (List Int)} {v : Value} {w1 wr : World} (h : RtI base m n R v w1 wr) (hn : 0 < n) (hR : R.length = n) (hm : ∀ k, k < n → (rat R k).length = m) : ∃ G K cap, v = .slice (some ⟨G, 0, none⟩) n cap ∧ n ≤ cap ∧ Tbl base G K wr R := by
  obtain ⟨K, ho, h1, h2, h3⟩ := h.rows
  have ho' := ho
  rcases ho.2 with ⟨_, e⟩ | ⟨G, cap, cur, rfl, hb, hg, hc, _⟩
  · omega
  · refine ⟨G, K, cap, rfl, hc, (Array.getElem?_eq_some_iff.1 hg).1, fun k hk => ?_, fun k hk => h1 k (by omega), fun j k hj hk => h2 j k (by omega) (by omega), ⟨hb, fun k hk => ⟨(h3 k (by omega)).1, fun e => (h3 k (by omega)).2 (by rw [e]; rfl)⟩⟩, fun j => by simp [World.frozen?, hg]⟩
    have hx : (slcs K m n)[k]? = some (.slice (some ⟨K k, 0, none⟩) m m) := by unfold slcs; simp [show k < n by omega]
    have := World.ownsRow.cells ho' (g := G) rfl k _ hx
    have hadd : (⟨G, 0, none⟩ : Addr).add k = ⟨G, 0 + k, none⟩ := by unfold Addr.add; split <;> simp_all
    rw [hadd, Nat.zero_add] at this
    rw [hm k (by omega)]
    exact this

end Go.Proofs.YtaibngnabhmabajGreatDoor
