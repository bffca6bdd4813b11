/- Package pledge: rows, columns. -/
import Derived.Test.YtpgnabmkfkcogaaGreatDoorGxAR
import Derived.Test.YtpgnabmkfkcogaaGreatDoorGxAM
import Derived.Test.YtpgnabmkfkcogaaGreatDoorGxAG
import Derived.Test.YtpgnabmkfkcogaaGreatDoorDoms
import Derived.Test.YtpgnabmkfkcogaaGreatDoorTres
namespace Go.Proofs.YtpgnabmkfkcogaaGreatDoor
open Go.RowKit

/-- the rows of a table, of so many elements each -/
def rwl (st m : Nat) (t : List Int) : List (List Int) := (List.range m).map fun j => (t.drop (st * j)).take st
theorem rwl_len (st m : Nat) (t : List Int) : (rwl st m t).length = m := by simp [rwl]
theorem rwl_at {st m : Nat} (t : List Int) {j : Nat} (h : j < m) : rat (rwl st m t) j = (t.drop (st * j)).take st := by
  unfold rat rwl
  rw [List.getD_eq_getElem?_getD]
  simp [h]
theorem rwl_wide {st m : Nat} {t : List Int} (ht : t.length = st * m) {j : Nat} (h : j < m) : (rat (rwl st m t) j).length = st := by
  rw [rwl_at t h, List.length_take, List.length_drop, ht]
  have h1 : st * (j + 1) ≤ st * m := Nat.mul_le_mul_left _ (by omega)
  rw [Nat.mul_succ] at h1
  omega
theorem rwl_zat {st m : Nat} {t : List Int} {j i : Nat} (h : j < m) (hi : i < st) : zat (rat (rwl st m t) j) i = zat t (st * j + i) := by
  rw [rwl_at t h]
  unfold zat
  rw [List.getElem?_take_of_lt hi, List.getElem?_drop]
theorem rwl_fits {st m : Nat} {t : List Int} (ht : t.length = st * m) (hf : Fits t) (hst : st ≤ 4096) : FitsR (rwl st m t) := fun k hk => by
  rw [rwl_len] at hk
  refine ⟨fun j hj => ?_, by rw [rwl_wide ht hk]; omega⟩
  rw [rwl_wide ht hk] at hj
  rw [rwl_zat hk hj]
  exact hf.all _
/-- what is row by row in a block that parts of a list lie in -/
theorem rows_of_owns {base ap o st m : Nat} {w : World} {v : Value} {t : List Int} (ht : t.length = st * m) (h : w.ownsRow base 23 1 v m ((List.range m).map (chv ap o st))) (hr : RowB w.heap.size w (some ⟨ap, o, none⟩) t) : ∃ a c, v = .slice a m c ∧ LstR w.heap.size w a c (rwl st m t) := by
  rcases h.2 with ⟨rfl, h0⟩ | ⟨g, cap, cur, rfl, hb, hg, hn, hm, hs, hx⟩
  · subst h0
    exact ⟨none, 0, rfl, fun k hk => by rw [rwl_len] at hk; omega, by rw [rwl_len]; omega, fun _ => rfl⟩
  · refine ⟨some ⟨g, 0, none⟩, cap, rfl, fun k hk => ?_, by rw [rwl_len]; exact hn, fun e => by cases e⟩
    rw [rwl_len] at hk
    refine ⟨g, 0, some ⟨ap, o + st * k, none⟩, st, rfl, (Array.getElem?_eq_some_iff.1 hg).1, ?_, ⟨fun i hi => ?_, by rw [rwl_wide ht hk]; exact Nat.le_refl _, fun e => by cases e⟩⟩
    · rw [Nat.zero_add, h.cellAt k (by omega), rwl_wide ht hk]
      simp [chv, hk]
    · rw [rwl_wide ht hk] at hi
      have h1 : st * (k + 1) ≤ st * m := Nat.mul_le_mul_left _ (by omega)
      rw [Nat.mul_succ] at h1
      obtain ⟨b, o', e1, e2, e3⟩ := hr (st * k + i) (by omega)
      cases e1
      exact ⟨ap, o + st * k, rfl, e2, by rw [rwl_zat hk hi, Nat.add_assoc]; exact e3⟩

set_option maxHeartbeats 1000000 in
theorem collectChunk_any (Bs ap o L cp st m : Nat) (w : World) (hL : L = st * m) (hst : 1 ≤ st) (hLc : L ≤ cp) (hlen : L ≤ 1000000) (hm : m ≤ 1000000) (hc : w.cell? ⟨Bs, 0, none⟩ = some (.slice (some ⟨ap, o, none⟩) L cp)) (hc2 : w.cell? ⟨Bs + 1, 0, none⟩ = some (.int .i64 (st : Int))) :
    Calls Tryz.prog 186 #[.func (.func 228) #[] #[.pointer (some ⟨Bs, 0, none⟩), .pointer (some ⟨Bs + 1, 0, none⟩)]] w fun e w' => ∃ v, e = .returned v ∧ w'.ownsRow w.heap.size 23 1 v m ((List.range m).map (chv ap o st)) ∧ Below w.heap.size w w' := by
  have HA := hid (appendChunk_any Bs ap o L cp st m w hL hst hLc hlen hm hc hc2)
  clear hc hc2 hL
  go_enter Tryz.func186, Tryz.ntmps186
  go_wp2_with fail
  refine HA.out.mono ?_
  rintro e w1 ⟨v, rfl, h⟩
  have H := hid h
  clear h
  go_wp2_with fail
  go_ret
  exact ⟨v, rfl, H.out⟩

set_option maxHeartbeats 1000000 in
theorem chunkS_any (a : Option Addr) (len cap st : Nat) (w : World) (hst : 1 ≤ st) :
    Calls Tryz.prog 187 #[.slice a len cap, .int .i64 (st : Int)] w fun e w' => e = .returned (.func (.func 228) #[] #[.pointer (some ⟨w.heap.size, 0, none⟩), .pointer (some ⟨w.heap.size + 1, 0, none⟩)]) ∧ w' = (w.alloc (.cells #[.slice a len cap] 23)).alloc (.cells #[.int .i64 (st : Int)] 3) := by
  have h1 : ¬ (st : Int) < 1 := by omega
  go_enter Tryz.func187, Tryz.ntmps187
  go_wp2_with fail
  go_ret
  exact ⟨rfl, rfl⟩

theorem two_cells (w : World) (x y : Value) (t u : TypeId) : ((w.alloc (.cells #[x] t)).alloc (.cells #[y] u)).cell? ⟨w.heap.size, 0, none⟩ = some x ∧ ((w.alloc (.cells #[x] t)).alloc (.cells #[y] u)).cell? ⟨w.heap.size + 1, 0, none⟩ = some y := by
  have hs : (w.alloc (.cells #[x] t)).heap.size = w.heap.size + 1 := by simp
  have e2 := heap_alloc_new (w.alloc (.cells #[x] t)) (.cells #[y] u)
  rw [hs] at e2
  have e1 := ((Below.refl (w.alloc (.cells #[x] t)).heap.size (w.alloc (.cells #[x] t))).alloc (Nat.le_refl _) (.cells #[y] u)).block w.heap.size (by omega)
  rw [heap_alloc_new w _] at e1
  exact ⟨by unfold World.cell?; rw [e1]; rfl, by unfold World.cell?; rw [e2]; rfl⟩
set_option maxRecDepth 100000 in
set_option maxHeartbeats 2000000 in
theorem prows_any (b d v ap o cp m : Nat) (t : List Int) (w : World) (hv : v ≤ 12) (ht : t.length = 2 ^ v) (hm : 2 ^ v = 2 ^ (v - v / 2) * m) (hl : Lst w.heap.size w (some ⟨ap, o, none⟩) cp t) :
    Calls Tryz.prog 109 #[shV b d v, .slice (some ⟨ap, o, none⟩) (2 ^ v) cp] w fun e w' => ∃ a c, e = .returned (.slice a m c) ∧ LstR w'.heap.size w' a c (rwl (2 ^ (v - v / 2)) m t) ∧ Below w.heap.size w w' := by
  have hle : 2 ^ v ≤ 4096 := by have := Nat.pow_le_pow_right (show 0 < 2 by omega) hv; omega
  have hst1 : 1 ≤ 2 ^ (v - v / 2) := Nat.one_le_two_pow
  have hmle : m ≤ 2 ^ v := by rw [hm]; exact Nat.le_mul_of_pos_left _ hst1
  have hWD := wide_any (.pointer (some ⟨b, 0, none⟩)) (.pointer (some ⟨d, 0, none⟩)) ((v / 2 : Nat) : Int) (v - v / 2)
  have HWD := hid (fun W => hWD W (by omega))
  obtain ⟨st, hst⟩ : ∃ st, st = 2 ^ (v - v / 2) := ⟨_, rfl⟩
  obtain ⟨L, hL⟩ : ∃ L, L = 2 ^ v := ⟨_, rfl⟩
  rw [← hst] at HWD hst1 ⊢
  rw [← hL] at hle hmle ⊢
  have HLC : Hid (L = st * m ∧ L ≤ cp) := ⟨by rw [hL, hst]; exact hm, by have := hl.room; omega⟩
  have HTL : Hid (t.length = st * m) := by unfold Hid; rw [ht, hst]; exact hm
  have HL := hid hl
  obtain ⟨W0, hW0⟩ : ∃ W0, W0 = w.alloc (.cells #[.pointer (some ⟨b, 0, none⟩), .pointer (some ⟨d, 0, none⟩), .int .i64 ((v / 2 : Nat) : Int), .int .i64 ((v - v / 2 : Nat) : Int)] 108) := ⟨_, rfl⟩
  have HB0 : Hid (Below w.heap.size w W0) := by rw [hW0]; exact (Below.refl _ _).alloc (Nat.le_refl _) _
  have HW0 := hid hW0
  unfold shV
  generalize ((v / 2 : Nat) : Int) = hi at *
  generalize ((v - v / 2 : Nat) : Int) = lo at *
  clear hW0 hl ht hm hst hL hv hWD
  go_enter Tryz.func109, Tryz.ntmps109
  go_wp2_with fail
  rw [← HW0.out]
  refine (HWD.out W0).mono ?_
  rintro e w1 ⟨rfl, hb1⟩
  have HB1 : Hid (Below w.heap.size w w1) := HB0.out.trans (hb1.mono HB0.out.size)
  clear hb1
  go_wp2_with fail
  refine (chunkS_any (some ⟨ap, o, none⟩) L cp st w1 hst1).mono ?_
  rintro e w2 ⟨rfl, hw2⟩
  obtain ⟨Bs, hBs⟩ : ∃ Bs, Bs = w1.heap.size := ⟨_, rfl⟩
  have hb2 : Below w1.heap.size w1 w2 := by rw [hw2]; exact ((Below.refl _ _).alloc (Nat.le_refl _) _).alloc (by simp) _
  obtain ⟨e1, e2⟩ := two_cells w1 (.slice (some ⟨ap, o, none⟩) L cp) (.int .i64 (st : Int)) 23 3
  rw [← hw2, ← hBs] at e1 e2
  have hc1 : w2.cell? ⟨Bs, 0, none⟩ = some (.slice (some ⟨ap, o, none⟩) L cp) := e1
  have hc2 : w2.cell? ⟨Bs + 1, 0, none⟩ = some (.int .i64 (st : Int)) := e2
  have HCO := hid (collectChunk_any Bs ap o L cp st m w2 HLC.out.1 hst1 HLC.out.2 (by omega) (by omega) hc1 hc2)
  have HB2 : Hid (Below w.heap.size w w2) := HB1.out.trans (hb2.mono HB1.out.size)
  rw [← hBs]
  clear hw2 hBs hb2 hc1 hc2 HWD
  go_wp2_with fail
  refine HCO.out.mono ?_
  rintro e w3 ⟨vv, rfl, ho3, hb3⟩
  have HB3 : Hid (Below w.heap.size w w3) := HB2.out.trans (hb3.mono HB2.out.size)
  obtain ⟨a, c, rfl, e2⟩ := rows_of_owns HTL.out ho3 ((HL.out.below HB3.out).row.mono HB3.out.size)
  have HRW := hid e2
  clear ho3 hb3 e2
  go_wp2_with fail
  go_ret
  exact ⟨a, c, rfl, HRW.out, HB3.out⟩

theorem slr_pm {w : World} {g n : Nat} {l : List Int} (h : ArrI w g 3 n (zat l)) (hl : l.length = n) : SlR w l (.slice (some ⟨g, 0, none⟩) n n) := by
  subst hl
  exact ⟨_, _, rfl, ⟨fun k hk => ⟨g, 0, rfl, h.lt, by rw [Nat.zero_add]; exact h.cell hk⟩, Nat.le_refl _, fun e => by cases e⟩, fun _ => ⟨g, 0, rfl, _, 3, (0, 0), h.heap, by decide, by decide, by decide, by decide, by decide, by decide⟩⟩
/-- a row made longer over a domain -/
def vll (p : Nat) (s r : Int) (N : Nat) (row : List Int) : List Int := ls (fun j => evz p row (Dom.pt p s r j)) N
/-- rows made longer, column by column -/
def cll (p : Nat) (s r : Int) (N : Nat) (rows : List (List Int)) : List (List Int) := (List.range N).map (pgc (rows.map (vll p s r N)))
theorem cll_len (p : Nat) (s r : Int) (N : Nat) (rows : List (List Int)) : (cll p s r N rows).length = N := by simp [cll]
theorem cll_at {p : Nat} {s r : Int} {N : Nat} {rows : List (List Int)} {j : Nat} (h : j < N) : rat (cll p s r N rows) j = pgc (rows.map (vll p s r N)) j := by
  unfold rat cll
  rw [List.getD_eq_getElem?_getD]
  simp [h]
theorem vll_len (p : Nat) (s r : Int) (N : Nat) (row : List Int) : (vll p s r N row).length = N := ls_len _ _
theorem vll_fits {p : Nat} (h3 : 3 ≤ p) (hm : p ≤ 2147483647) (s r : Int) (N : Nat) (row : List Int) : Fits (vll p s r N row) := fun j hj => by
  unfold vll at hj ⊢
  rw [ls_len] at hj
  rw [ls_at _ _ _ hj]
  have := evz_bounds p row (Dom.pt p s r j) h3
  omega
theorem rat_map {f : List Int → List Int} {rows : List (List Int)} {k : Nat} (h : k < rows.length) : rat (rows.map f) k = f (rat rows k) := by
  unfold rat
  rw [List.getD_eq_getElem?_getD, List.getD_eq_getElem?_getD, List.getElem?_map, List.getElem?_eq_getElem h]
  rfl
theorem cll_fits {p : Nat} (h3 : 3 ≤ p) (hm : p ≤ 2147483647) (s r : Int) (N : Nat) (rows : List (List Int)) (hN : N ≤ 65536) (hr : rows.length ≤ 4096) : FitsR (cll p s r N rows) := fun k hk => by
  rw [cll_len] at hk
  rw [cll_at hk]
  refine ⟨pgc_fits (fun i hi => ?_) k, by rw [pgc_len, List.length_map]; omega⟩
  rw [List.length_map] at hi
  rw [rat_map hi]
  exact ⟨vll_fits h3 hm _ _ _ _, by rw [vll_len]; omega⟩
theorem take_map_succ {f : List Int → List Int} {rows : List (List Int)} {k : Nat} (h : k < rows.length) : (rows.map f).take (k + 1) = (rows.map f).take k ++ [f (rat rows k)] := by
  rw [take_succ_rat (by rw [List.length_map]; exact h), rat_map h]

/-- columns in a block of lists -/
def ColI (g N m : Nat) (w : World) (L : List (List Int)) (j : Nat) : Prop := ∃ B : Nat → Nat, w.rowIs g 23 N (fun i => if i < j then .slice (some ⟨B i, 0, none⟩) m m else .slice none 0 0) ∧ ∀ i, i < j → g < B i ∧ ArrI w (B i) 3 m (zat (pgc L i))
theorem ColI.below {g N m : Nat} {w w' : World} {L : List (List Int)} {j : Nat} (h : ColI g N m w L j) (e : Below w.heap.size w w') : ColI g N m w' L j := by
  obtain ⟨B, h1, h2⟩ := h
  refine ⟨B, World.rowIs.of_block h1 (e.block g (World.rowIs.lt h1)), fun i hi => ?_⟩
  obtain ⟨e1, e2⟩ := h2 i hi
  exact ⟨e1, e2.below e e2.lt⟩
theorem ColI.put {g N m x : Nat} {w : World} {L : List (List Int)} {j : Nat} (h : ColI g N m w L j) (hx : g < x) (hA : ArrI w x 3 m (zat (pgc L j))) : ColI g N m (w.setCell ⟨g, j, none⟩ (.slice (some ⟨x, 0, none⟩) m m)) L (j + 1) := by
  obtain ⟨B, h1, h2⟩ := h
  refine ⟨fun i => if i = j then x else B i, World.rowIs.congr (World.rowIs.set h1 j _) (fun i _ => ?_), fun i hi => ?_⟩
  · by_cases e : i = j
    · rw [if_pos e, if_pos (by omega)]
      simp [e]
    · rw [if_neg e]
      by_cases hij : i < j
      · rw [if_pos hij, if_pos (by omega)]
        simp [e]
      · rw [if_neg hij, if_neg (by omega)]
  · have hne : ∀ y, g < y → y ≠ g := fun y hy => by omega
    by_cases e : i = j
    · subst e
      simp only [if_true]
      exact ⟨hx, hA.block (Below.heap_setCell _ _ _ _ (by show x ≠ g; omega))⟩
    · simp only [if_neg e]
      obtain ⟨e1, e2⟩ := h2 i (by omega)
      exact ⟨e1, e2.block (Below.heap_setCell _ _ _ _ (by show B i ≠ g; omega))⟩
theorem ColI.lstR {g N m : Nat} {w : World} {p : Nat} {s r : Int} {rows : List (List Int)} (hm : m = rows.length) (h : ColI g N m w (rows.map (vll p s r N)) N) : LstR w.heap.size w (some ⟨g, 0, none⟩) N (cll p s r N rows) := by
  obtain ⟨B, h1, h2⟩ := h
  refine ⟨fun k hk => ?_, by rw [cll_len]; exact Nat.le_refl _, fun e => by cases e⟩
  rw [cll_len] at hk
  obtain ⟨_, e2⟩ := h2 k hk
  have hpl : (rat (cll p s r N rows) k).length = m := by rw [cll_at hk, pgc_len, List.length_map, hm]
  refine ⟨g, 0, some ⟨B k, 0, none⟩, m, rfl, World.rowIs.lt h1, ?_, ?_⟩
  · rw [Nat.zero_add, h1.cell hk, if_pos hk, hpl]
  · refine ⟨fun i hi => ⟨B k, 0, rfl, e2.lt, ?_⟩, by omega, fun e => by cases e⟩
    rw [Nat.zero_add, e2.cell (by omega), cll_at hk]

set_option maxRecDepth 100000 in
set_option maxHeartbeats 4000000 in
theorem pcolumns_any (p b d v ap o cp m N : Nat) (r s : Int) (t : List Int) (w : World) (hD : DO w p b d N r s) (hv : v ≤ 12) (ht : t.length = 2 ^ v) (hm : 2 ^ v = 2 ^ (v - v / 2) * m) (hf : Fits t) (hl : Lst w.heap.size w (some ⟨ap, o, none⟩) cp t) :
    Calls Tryz.prog 51 #[shV b d v, .slice (some ⟨ap, o, none⟩) (2 ^ v) cp] w fun e w' => ∃ a c, e = .returned (.slice a N c) ∧ LstR w'.heap.size w' a c (cll p s r N (rwl (2 ^ (v - v / 2)) m t)) ∧ Below w.heap.size w w' := by
  have hle : 2 ^ v ≤ 4096 := by have := Nat.pow_le_pow_right (show 0 < 2 by omega) hv; omega
  have hst1 : 1 ≤ 2 ^ (v - v / 2) := Nat.one_le_two_pow
  have hst2 : 2 ^ (v - v / 2) ≤ 4096 := by have := Nat.pow_le_pow_right (show 0 < 2 by omega) (show v - v / 2 ≤ 12 by omega); omega
  have hmle : m ≤ 4096 := by have : m ≤ 2 ^ v := by rw [hm]; exact Nat.le_mul_of_pos_left _ hst1
                             omega
  obtain ⟨kk, hkk, hNN⟩ := hD.hk
  have hN16 : N ≤ 65536 := by rw [hNN]; have := two_pow_le hkk; exact this
  have h3 := hD.h3
  have hpm := hD.hm
  have HRWS : Hid (∀ W, Below w.heap.size w W → Calls Tryz.prog 109 #[shV b d v, .slice (some ⟨ap, o, none⟩) (2 ^ v) cp] W fun e w' => ∃ a c, e = .returned (.slice a m c) ∧ LstR w'.heap.size w' a c (rwl (2 ^ (v - v / 2)) m t) ∧ Below W.heap.size W w') := fun W hW => prows_any b d v ap o cp m t W hv ht hm ((hl.below hW).mono hW.size)
  obtain ⟨rows, hrows⟩ : ∃ rows, rows = rwl (2 ^ (v - v / 2)) m t := ⟨_, rfl⟩
  have hrl : rows.length = m := by rw [hrows, rwl_len]
  have HRL : Hid (∀ k, k < m → (rat rows k).length ≤ 4096 ∧ Fits (rat rows k)) := fun k hk => by
    rw [hrows]
    exact ⟨by rw [rwl_wide (by rw [ht]; exact hm) hk]; exact hst2, (rwl_fits (by rw [ht]; exact hm) hf hst2 k (by rw [rwl_len]; exact hk)).1⟩
  have HDW : Hid (∀ W, Below w.heap.size w W → DO W p b d N r s) := fun W hW => hD.below hW (heap_lt hD.hp) hD.da.lt
  have HVAL : Hid (∀ (W : World) (k c : Nat) (a : Option Addr), k < m → Below w.heap.size w W → Lst W.heap.size W a c (rat rows k) → Calls Tryz.prog 110 #[.pointer (some ⟨d, 0, none⟩), .slice a (rat rows k).length c] W fun e w' => e = .returned (.slice (some ⟨W.heap.size, 0, none⟩) N N) ∧ ArrI w' W.heap.size 3 N (zat (vll p s r N (rat rows k))) ∧ Below W.heap.size W w') := fun W k c a hk hW hla => by
    obtain ⟨f1, f2⟩ := HRL.out k hk
    have D := HDW.out W hW
    have h := values_any p b d kk N c r s (fun x => x < W.heap.size) a (rat rows k) W D.pr D.h3 D.hm D.hp D.da hkk hNN D.hr0 D.hr1 D.ord D.hs0 D.hs1 (by omega) f2 hla.row (fun _ h => h)
    refine h.mono ?_
    rintro e w' ⟨rfl, h1, h2, _⟩
    exact ⟨rfl, World.rowIs.congr h1 (fun j hj => by unfold vll; rw [ls_at _ _ _ hj]), h2⟩
  have HSZ : Hid (∀ W, Below w.heap.size w W → Calls Tryz.prog 111 #[.pointer (some ⟨d, 0, none⟩)] W fun e w' => e = .returned (.int .i64 (N : Int)) ∧ w' = W) := fun W hW => size_any d b N r s W (HDW.out W hW).da
  obtain ⟨LG, hLG⟩ : ∃ LG, LG = rows.map (vll p s r N) := ⟨_, rfl⟩
  have HLG : Hid (LG.length = m ∧ (∀ k, k < m → rat LG k = vll p s r N (rat rows k)) ∧ (∀ k, k < m → LG.take (k + 1) = LG.take k ++ [vll p s r N (rat rows k)]) ∧ rows.length = m) := by
    rw [hLG]
    exact ⟨by rw [List.length_map, hrl], fun k hk => rat_map (by omega), fun k hk => take_map_succ (by omega), hrl⟩
  have HCOL : Hid (∀ (W : World) (j c : Nat) (a : Option Addr), j < N → LstR W.heap.size W a c LG → Calls Tryz.prog 100 #[.slice a m c, .int .i64 (j : Int)] W fun e w' => e = .returned (.slice (some ⟨W.heap.size, 0, none⟩) m m) ∧ ArrI w' W.heap.size 3 m (zat (pgc LG j)) ∧ Below W.heap.size W w') := fun W j c a hj hla => by
    have h := column_any c j a LG W (by rw [HLG.out.1]; omega) (fun k hk => by rw [HLG.out.1] at hk; rw [HLG.out.2.1 k hk, vll_len]; exact hj) hla
    rw [HLG.out.1] at h
    exact h
  have HFIN : Hid (∀ (W : World) (g : Nat), ColI g N m W LG N → LstR W.heap.size W (some ⟨g, 0, none⟩) N (cll p s r N rows)) := fun W g h => by
    rw [hLG] at h
    exact h.lstR hrl.symm
  obtain ⟨L, hL⟩ : ∃ L, L = 2 ^ v := ⟨_, rfl⟩
  rw [← hL] at HRWS ⊢
  rw [← hrows] at HRWS ⊢
  unfold shV at HRWS ⊢
  generalize ((v / 2 : Nat) : Int) = hi at *
  generalize ((v - v / 2 : Nat) : Int) = lo at *
  obtain ⟨W0, hW0⟩ : ∃ W0, W0 = w.alloc (.cells #[.pointer (some ⟨b, 0, none⟩), .pointer (some ⟨d, 0, none⟩), .int .i64 hi, .int .i64 lo] 108) := ⟨_, rfl⟩
  have hb0 : Below w.heap.size w W0 := by rw [hW0]; exact (Below.refl _ _).alloc (Nat.le_refl _) _
  have hs0 : W0.heap[w.heap.size]? = some (.cells #[.pointer (some ⟨b, 0, none⟩), .pointer (some ⟨d, 0, none⟩), .int .i64 hi, .int .i64 lo] 108 (0, 0)) := by rw [hW0]; exact heap_alloc_new w _
  obtain ⟨G, hG⟩ : ∃ G, G = w.heap.size := ⟨_, rfl⟩
  have hG0 : G < W0.heap.size := by have := (Array.getElem?_eq_some_iff.1 hs0).1; omega
  rw [← hG] at hs0
  have HC : Hid (∀ W, Below W0.heap.size W0 W → W.cell? ⟨G, 1, none⟩ = some (.pointer (some ⟨d, 0, none⟩))) := fun W hW => by
    have e1 := (hW.block G hG0).trans hs0
    simp [World.cell?, e1]
  have HBW : Hid (∀ W, Below W0.heap.size W0 W → Below w.heap.size w W) := fun W hW => hb0.trans (hW.mono hb0.size)
  have HW0 := hid hW0
  have HGE := hid hG
  have hmx : Tryz.prog.follows .mixedOrders = true := by kernel_rfl
  clear hW0 hs0 hb0 hG hD hl ht hf hm hst1 hst2 hle hrows hrl hLG hkk hNN hL hv
  go_enter Tryz.func51, Tryz.ntmps51
  go_wp2_with fail
  rw [← HGE.out, ← HW0.out]
  refine (HRWS.out W0 (HBW.out W0 (Below.refl _ _))).mono ?_
  rintro e w1 ⟨ar, cr, rfl, hr1, hb1⟩
  have HR1 := hid hr1
  have HB1 := hid hb1
  clear hr1 hb1 HRWS
  go_wp2_with fail
  go_loopw [5, 7, 14] (fun lv _ iv wr => ∃ k : Nat, k ≤ m ∧ iv = .int .i64 (k : Int) ∧ Hid (OwnR w1.heap.size wr lv (LG.take k) ∧ Below w1.heap.size w1 wr)) (fun _ _ iv _ => m - (intOf iv).toNat)
  case atStart => exact ⟨0, Nat.zero_le _, rfl, OwnR.nil _ _, Below.refl _ _⟩
  case round =>
    obtain ⟨k, hk, rfl, hI⟩ := hrel
    have HBI : Hid (Below W0.heap.size W0 wr) := HB1.out.trans (hI.out.2.mono HB1.out.size)
    have HB1I := hid hI.out.2
    have HOI := hid hI.out.1
    have k1 := HC.out wr HBI.out
    clear hI
    by_cases hlt : k < m
    · have hlt2 : (k : Int) < (m : Int) := by omega
      have hk0 : ¬ (k : Int) < 0 := by omega
      have hks : IntKind.i64.wrap ((k : Int) + 1) = (k : Int) + 1 := by rw [IntKind.wrap_i64]; omega
      obtain ⟨b1, o1, ak, ck, rfl, hb1, hc1, hl1⟩ := HR1.out.row k (by rw [HLG.out.2.2.2]; exact hlt)
      have hc1' := (HB1I.out.cell (p := ⟨b1, o1 + k, none⟩) hb1).trans hc1
      have HVX := hid (HVAL.out wr k ck ak hlt (HBW.out _ HBI.out) ((hl1.below HB1I.out).mono HB1I.out.size))
      have HTK := hid (HLG.out.2.2.1 k hlt)
      obtain ⟨nk, hnk⟩ : ∃ nk, nk = (rat rows k).length := ⟨_, rfl⟩
      rw [← hnk] at hc1' HVX
      obtain ⟨VV, hVV⟩ : ∃ VV, VV = vll p s r N (rat rows k) := ⟨_, rfl⟩
      rw [← hVV] at HVX HTK
      have HVN : Hid (VV.length = N) := by rw [hVV]; exact vll_len _ _ _ _ _
      clear hb1 hc1 hl1 hnk hVV
      go_wp2_with fail
      refine HVX.out.mono ?_
      rintro e w5 ⟨rfl, hA5, hb5⟩
      have HO5 := hid (HOI.out.keep hb5)
      have HSL := hid (slr_pm hA5 HVN.out)
      have HB5 : Hid (Below w1.heap.size w1 w5) := HB1I.out.trans (hb5.mono HB1I.out.size)
      have HTL : Hid ((LG.take k).length + 1 ≤ 5864062014805) := by unfold Hid; rw [List.length_take]; omega
      obtain ⟨LK, hLK⟩ : ∃ LK, LK = LG.take k := ⟨_, rfl⟩
      rw [← hLK] at HTK HO5 HTL
      clear hA5 hb5 HVX HOI hc1' k1 hLK
      go_wp2_with (at_builtin; refine wpList_row1 w5 w1.heap.size rfl _ _ rfl _ _ LK VV HO5.out HSL.out rfl rfl HTL.out HB5.out.size ?_)
      intro v6 w6 ho6 hb6 _
      have HR6 : Hid (OwnR w1.heap.size w6 v6 (LG.take (k + 1)) ∧ Below w1.heap.size w1 w6) := by
        unfold Hid
        rw [HTK.out]
        exact ⟨ho6, HB5.out.trans hb6⟩
      clear ho6 hb6 HO5 HSL HB5 HB1I HBI
      go_wp2_with fail
      go_roundw
      case rel => exact ⟨k + 1, by omega, by go_num, HR6⟩
      case measure => simp [intOf]; omega
    · obtain rfl : k = m := by omega
      have hlt2 : ¬ (k : Int) < (k : Int) := by omega
      have HOE := HOI
      rw [List.take_of_length_le (by rw [HLG.out.1]; exact Nat.le_refl _)] at HOE
      obtain ⟨al, cl, rfl, hll⟩ := OwnR.lst HOE.out
      rw [HLG.out.1]
      have HLL := hid hll
      have HSZX := hid (HSZ.out wr (HBW.out _ HBI.out))
      have hmk2 := fun w => run_make_row' (P := Tryz.prog) 22 23 (.slice none 0 0) 24 Tryz.underlying22 Tryz.infoSl rfl .i64 .i64 N (by omega) (by omega) w
      clear hll HOI HSZ HVAL HR1
      go_wp2_with fail
      refine HSZX.out.mono ?_
      rintro e w0 ⟨rfl, hw⟩
      have hw1 := hw.symm
      subst hw1
      clear hw HSZX k1
      obtain ⟨W5, hW5⟩ : ∃ W5, W5 = wr.alloc (.cells (madeCells #[.slice none 0 0] N) 23) := ⟨_, rfl⟩
      obtain ⟨g, hg⟩ : ∃ g, g = wr.heap.size := ⟨_, rfl⟩
      have HCI : Hid (ColI g N k W5 LG 0) := by
        rw [hW5, hg]
        exact ⟨fun _ => 0, World.rowIs.congr (World.rowIs_made _ _ _ _) (fun i _ => by rw [if_neg (Nat.not_lt_zero _)]), fun i hi => absurd hi (Nat.not_lt_zero _)⟩
      have hba : Below wr.heap.size wr W5 := by rw [hW5]; exact (Below.refl _ _).alloc (Nat.le_refl _) _
      have hgl : g < W5.heap.size := by rw [hW5, hg]; simp
      have HB5 : Hid (Below W0.heap.size W0 W5) := HBI.out.trans (hba.mono HBI.out.size)
      have HL5 : Hid (LstR g W5 al cl LG) := by rw [hg]; exact HLL.out.below hba
      have HGW : Hid (W0.heap.size ≤ g) := by have := HBI.out.size; unfold Hid; omega
      have HW5 := hid hW5
      have HGG := hid hg
      have hlen5 := HLG.out.1
      clear hba hg hW5 HB1I HBI HOE HB1 HLL
      go_wp2_with fail
      rw [← HGG.out, ← HW5.out]
      go_loopw [9, 32] (fun _ iv wr => ∃ j : Nat, j ≤ N ∧ iv = .int .i64 (j : Int) ∧ Hid (ColI g N k wr LG j ∧ Below g W5 wr)) (fun _ iv _ => N - (intOf iv).toNat)
      case atStart => exact ⟨0, Nat.zero_le _, rfl, HCI.out, Below.refl _ _⟩
      case round =>
        obtain ⟨j, hj, rfl, hI⟩ := hrel
        by_cases hjt : j < N
        · have hjt2 : (j : Int) < (N : Int) := by omega
          have hj0 : ¬ (j : Int) < 0 := by omega
          have hjs : IntKind.i64.wrap ((j : Int) + 1) = (j : Int) + 1 := by rw [IntKind.wrap_i64]; omega
          have hgx : g < wr.heap.size := by have := hI.out.2.size; omega
          have HCX := hid (HCOL.out wr j cl al hjt ((HL5.out.below hI.out.2).mono (by omega)))
          have HI := hid hI.out
          clear hI
          go_wp2_with fail
          refine HCX.out.mono ?_
          rintro e w6 ⟨rfl, hA6, hb6⟩
          have hC6 := HI.out.1.below hb6
          have hC7 := hC6
          obtain ⟨B, hrow, _⟩ := hC7
          have c1 := hrow.cell hjt
          have y1 := hrow.frozen j
          rw [if_neg (Nat.lt_irrefl _)] at c1
          have HN6 := hid (hC6.put hgx hA6)
          have HB6 : Hid (Below g W5 (w6.setCell ⟨g, j, none⟩ (.slice (some ⟨wr.heap.size, 0, none⟩) k k))) := (HI.out.2.trans (hb6.mono (by omega))).setCell (p := ⟨g, j, none⟩) (Nat.le_refl g) _
          clear hrow hA6 hb6 HCX HI hC6
          go_wp2_with fail
          go_roundw
          case rel => exact ⟨j + 1, by omega, by go_num, HN6.out, HB6.out⟩
          case measure => simp [intOf]; omega
        · obtain rfl : j = N := by omega
          have hjt2 : ¬ (j : Int) < (j : Int) := by omega
          have HE : Hid (ColI g j k wr LG j ∧ Below w.heap.size w wr) := ⟨hI.out.1, HBW.out _ (HB5.out.trans (hI.out.2.mono HGW.out))⟩
          clear hI
          go_wp2_with fail
          go_ret
          exact ⟨some ⟨g, 0, none⟩, j, rfl, HFIN.out _ _ HE.out.1, HE.out.2⟩

end Go.Proofs.YtpgnabmkfkcogaaGreatDoor
