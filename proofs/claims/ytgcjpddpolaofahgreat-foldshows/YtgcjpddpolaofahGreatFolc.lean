/- attestref5: Fault, pairs, modulo, places. attestref5: places, Shows. Openings in memory; attestref5.path. attestref5.Check. attestref5.Check, where it has as many Roots as rounds. attestref5.Check, where it has more or fewer Roots than rounds; attestsame.Folds. -/
import Derived.Test.YtgcjpddpolaofahGreatFolR
import Derived.Test.YtgcjpddpolaofahGreatChnA
import Derived.Test.YtgcjpddpolaofahGreatTres
import Derived.Test.YtgcjpddpolaofahGreatTreI
namespace Go.Proofs.YtgcjpddpolaofahGreat
open Go.RowKit

/-! ## each once, ascending -/
def insz (x : Int) : List Int → List Int
  | [] => [x]
  | y :: r => if x < y then x :: y :: r else if x = y then y :: r else y :: insz x r
theorem mem_insz (x z : Int) : ∀ os : List Int, z ∈ insz x os ↔ z = x ∨ z ∈ os
  | [] => by simp [insz]
  | y :: r => by
    unfold insz
    split
    · simp
    · split
      · rename_i h; subst h; simp
      · simp only [List.mem_cons, mem_insz x z r]
        constructor
        · rintro (h | h | h)
          · exact .inr (.inl h)
          · exact .inl h
          · exact .inr (.inr h)
        · rintro (h | h | h)
          · exact .inr (.inl h)
          · exact .inl h
          · exact .inr (.inr h)
theorem asc_insz (x : Int) : ∀ os : List Int, Asc os → Asc (insz x os)
  | [], _ => by simp [insz, Asc]
  | y :: r, h => by
    have h1 := List.pairwise_cons.1 h
    unfold insz
    split
    · rename_i hx
      refine List.pairwise_cons.2 ⟨fun z hz => ?_, h⟩
      rcases List.mem_cons.1 hz with rfl | hz
      · exact hx
      · have := h1.1 z hz; omega
    · split
      · exact h
      · refine List.pairwise_cons.2 ⟨fun z hz => ?_, asc_insz x r h1.2⟩
        rcases (mem_insz x z r).1 hz with rfl | hz
        · omega
        · exact h1.1 z hz
def onc (ps : List Int) : List Int := ps.foldr insz []
theorem onc_is (ps : List Int) : OnceIs ps (onc ps) := by
  induction ps with
  | nil => exact ⟨by simp [onc, Asc], fun x => by simp [onc]⟩
  | cons a r ih =>
    refine ⟨asc_insz a _ ih.1, fun x => ?_⟩
    show x ∈ insz a (onc r) ↔ _
    rw [mem_insz, List.mem_cons, ih.2]
theorem onc_eq {ps os : List Int} (h : OnceIs ps os) : os = onc ps := h.unique (onc_is ps)

/-! ## Fault -/
/-- a power of 2, at most so great -/
def twb (h : Nat) (k : Int) : Bool := (List.range 17).any (fun j => decide (2 ^ j ≤ h ∧ k = ((2 ^ j : Nat) : Int)))
theorem twb_iff {h : Nat} {k : Int} (hh : h ≤ 65536) : twb h k = true ↔ ∃ j : Nat, 2 ^ j ≤ h ∧ k = ((2 ^ j : Nat) : Int) := by
  unfold twb
  rw [List.any_eq_true]
  constructor
  · rintro ⟨j, _, hj⟩
    exact ⟨j, of_decide_eq_true hj⟩
  · rintro ⟨j, h1, h2⟩
    refine ⟨j, List.mem_range.2 ?_, decide_eq_true ⟨h1, h2⟩⟩
    rcases Nat.lt_or_ge 16 j with g | g
    · have : 2 ^ 17 ≤ 2 ^ j := Nat.pow_le_pow_right (by omega) g
      omega
    · omega
def fz5 (N : Nat) (k asked : Int) : Int := if 2 ≤ N ∧ twb (N / 2) k = true ∧ 1 ≤ asked ∧ asked ≤ 64 then 0 else 2

/-! ## pairs -/
def prs5 (p : Nat) (word : List Int) : List (List Int) := (List.range (word.length / 2)).map (fun i => [zat word i % (p : Int), zat word (i + word.length / 2) % (p : Int)])
theorem prs5_len (p : Nat) (word : List Int) : (prs5 p word).length = word.length / 2 := by simp [prs5]
theorem prs5_rat {p : Nat} {word : List Int} {i : Nat} (h : i < word.length / 2) : rat (prs5 p word) i = [zat word i % (p : Int), zat word (i + word.length / 2) % (p : Int)] := by simp [rat, prs5, h]
theorem slr_two (w : World) (x y : Int) : SlR (w.alloc (.cells #[.int .i64 x, .int .i64 y] 3)) [x, y] (.slice (some ⟨w.heap.size, 0, none⟩) 2 2) := by
  refine ⟨some ⟨w.heap.size, 0, none⟩, 2, rfl, ⟨fun k hk => ⟨w.heap.size, 0, rfl, by simp, ?_⟩, by simp, fun e => by cases e⟩, fun _ => ⟨w.heap.size, 0, rfl, _, 3, (0, 0), heap_alloc_new w _, by decide, by decide, by decide, by decide, by decide, by decide⟩⟩
  have : k = 0 ∨ k = 1 := by simp at hk; omega
  unfold World.cell?
  rw [show (w.alloc (.cells #[.int .i64 x, .int .i64 y] 3)).heap[(⟨w.heap.size, 0 + k, none⟩ : Addr).block]? = some (.cells #[.int .i64 x, .int .i64 y] 3 (0, 0)) from heap_alloc_new w _]
  rcases this with rfl | rfl <;> rfl

/-! ## modulo -/
def mdz (l : List Int) (n : Nat) : List Int := onc (l.map (· % (n : Int)))
theorem mdz_in {l : List Int} {n : Nat} (hn : 0 < n) : ∀ x, x ∈ mdz l n → 0 ≤ x ∧ x < (n : Int) := fun x hx => by
  obtain ⟨y, _, rfl⟩ := List.mem_map.1 (((onc_is _).2 x).1 hx)
  exact ⟨Int.emod_nonneg _ (by omega), Int.emod_lt_of_pos _ (by omega)⟩

end Go.Proofs.YtgcjpddpolaofahGreat

namespace Go.Proofs.YtgcjpddpolaofahGreat
open Go.RowKit

/-- a chain behind some places -/
def pld (q n : Nat) : Nat → List Int → List Int
  | 0, D => D
  | i + 1, D => digl q n (4 :: pld q n i D)
def plz (q n N : Nat) (D : List Int) (i : Nat) : Int := (zat (pld q n (i + 1) D) 0 * q + zat (pld q n (i + 1) D) 1) % (N : Int)
theorem pld_len {q n : Nat} {D : List Int} (h : D.length ≤ 17592186044000) : ∀ i, (pld q n i D).length ≤ 17592186044000
  | 0 => h
  | i + 1 => by rw [pld, digl_len]; omega
theorem pld_fits {q n : Nat} (h3 : 3 ≤ q) (h4 : q ≤ 2147483647) {D : List Int} (h : Fits D) : ∀ i, Fits (pld q n i D)
  | 0 => h
  | i + 1 => by rw [pld]; exact digl_fits h3 h4 _ _
theorem plz_bounds {q n N : Nat} (hN : 0 < N) (D : List Int) (i : Nat) : 0 ≤ plz q n N D i ∧ plz q n N D i < (N : Int) := ⟨Int.emod_nonneg _ (by omega), Int.emod_lt_of_pos _ (by omega)⟩

/-- does an Opening show just these places? -/
noncomputable def shz5 (q n : Nat) (root : List Int) (N : Int) (ps : List Int) (rows nodes : List (List Int)) (pl : List Int) (wd : Int) : Bool :=
  decide (ps = pl) && decide (∀ k, k < rows.length → ((rat rows k).length : Int) = wd) && chkf q n root N ps rows nodes
theorem lists_eq {xs ys : List Int} (hl : xs.length = ys.length) (h : ∀ j, j < ys.length → zat xs j = zat ys j) : xs = ys := by
  apply List.ext_getElem hl
  intro i h1 h2
  have := h i h2
  simpa [zat, h1, h2] using this

end Go.Proofs.YtgcjpddpolaofahGreat

namespace Go.Proofs.YtgcjpddpolaofahGreat
open Go.RowKit

/-- an Opening -/
structure OnZ where
  ps : List Int
  rows : List (List Int)
  nodes : List (List Int)
def onat (s : List OnZ) (k : Nat) : OnZ := s.getD k ⟨[], [], []⟩
/-- Openings in memory -/
structure LstF (n0 : Nat) (w : World) (a : Option Addr) (cap : Nat) (s : List OnZ) : Prop where
  row : ∀ k, k < s.length → ∃ b o ap cp ar cr an' cn, a = some ⟨b, o, none⟩ ∧ b < n0 ∧ w.cell? ⟨b, o + k * 3, none⟩ = some (.slice ap (onat s k).ps.length cp) ∧ w.cell? ⟨b, o + k * 3 + 1, none⟩ = some (.slice ar (onat s k).rows.length cr) ∧ w.cell? ⟨b, o + k * 3 + 2, none⟩ = some (.slice an' (onat s k).nodes.length cn) ∧ Lst n0 w ap cp (onat s k).ps ∧ LstR n0 w ar cr (onat s k).rows ∧ LstR n0 w an' cn (onat s k).nodes
  room : s.length ≤ cap
  nil : a = none → cap = 0
theorem LstF.below {n0 : Nat} {A B : World} {a : Option Addr} {cap : Nat} {s : List OnZ} (r : LstF n0 A a cap s) (h : Below n0 A B) : LstF n0 B a cap s :=
  ⟨fun k hk => by
    obtain ⟨b, o, ap, cp, ar, cr, an', cn, h1, h2, h3, h4, h5, h6, h7, h8⟩ := r.row k hk
    exact ⟨b, o, ap, cp, ar, cr, an', cn, h1, h2, (h.cell (p := ⟨b, o + k * 3, none⟩) h2).trans h3, (h.cell (p := ⟨b, o + k * 3 + 1, none⟩) h2).trans h4, (h.cell (p := ⟨b, o + k * 3 + 2, none⟩) h2).trans h5, h6.below h, h7.below h, h8.below h⟩, r.room, r.nil⟩
theorem LstF.mono {n0 n1 : Nat} {A : World} {a : Option Addr} {cap : Nat} {s : List OnZ} (r : LstF n0 A a cap s) (h : n0 ≤ n1) : LstF n1 A a cap s :=
  ⟨fun k hk => by
    obtain ⟨b, o, ap, cp, ar, cr, an', cn, h1, h2, h3, h4, h5, h6, h7, h8⟩ := r.row k hk
    exact ⟨b, o, ap, cp, ar, cr, an', cn, h1, by omega, h3, h4, h5, h6.mono h, h7.mono h, h8.mono h⟩, r.room, r.nil⟩

theorem thr0 {W : World} {g : Nat} {a b c : Value} {t : TypeId} (h : W.heap[g]? = some (.cells #[a, b, c] t (0, 0))) : W.cell? ⟨g, 0, none⟩ = some a := by simp [World.cell?, h]
theorem thr1 {W : World} {g : Nat} {a b c : Value} {t : TypeId} (h : W.heap[g]? = some (.cells #[a, b, c] t (0, 0))) : W.cell? ⟨g, 1, none⟩ = some b := by simp [World.cell?, h]
theorem thr2 {W : World} {g : Nat} {a b c : Value} {t : TypeId} (h : W.heap[g]? = some (.cells #[a, b, c] t (0, 0))) : W.cell? ⟨g, 2, none⟩ = some c := by simp [World.cell?, h]
theorem fourF {W : World} {g : Nat} {a b c d : Value} {t : TypeId} (h : W.heap[g]? = some (.cells #[a, b, c, d] t (0, 0))) (i : Nat) : W.frozen? ⟨g, i, none⟩ = false := by simp [World.frozen?, h]
theorem four_row {W : World} {g : Nat} {a b c d : Value} {t : TypeId} (h : W.heap[g]? = some (.cells #[a, b, c, d] t (0, 0))) : W.rowIs g t 4 (quad a b c d) :=
  ⟨#[a, b, c, d], h, rfl, fun i hi => by
    have : i = 0 ∨ i = 1 ∨ i = 2 ∨ i = 3 := by omega
    rcases this with rfl | rfl | rfl | rfl <;> rfl⟩
theorem four_put {W : World} {g : Nat} {a b c d : Value} {t : TypeId} (h : W.heap[g]? = some (.cells #[a, b, c, d] t (0, 0))) (a' b' c' d' : Value) : ((((W.setCell ⟨g, 0, none⟩ a').setCell ⟨g, 1, none⟩ b').setCell ⟨g, 2, none⟩ c').setCell ⟨g, 3, none⟩ d').heap[g]? = some (.cells #[a', b', c', d'] t (0, 0)) := quad_arr (quad_set (four_row h) a' b' c' d')

/-- squared so often -/
def sqi (q : Nat) (a : Int) : Nat → Int
  | 0 => a
  | i + 1 => sqi q a i * sqi q a i % (q : Int)
theorem sqi_bounds {q : Nat} (h3 : 3 ≤ q) {a : Int} (h0 : 0 ≤ a) (h1 : a < q) : ∀ i, 0 ≤ sqi q a i ∧ sqi q a i < q
  | 0 => ⟨h0, h1⟩
  | _ + 1 => emod_bounds _ q h3
/-- the row that an Opening shows -/
def rw5 (o : OnZ) (pl : Nat) : List Int := rat o.rows (fx o.ps (pl : Int))
def pxz (q K : Nat) (r s : Int) (os : List OnZ) (drawn : List Int) (place i : Nat) : Int := Fol.pairz q (Dom.pt q (sqi q s i) (sqi q r i) (place % 2 ^ (K - i - 1))) (zat (rw5 (onat os i) (place % 2 ^ (K - i - 1))) 0) (zat (rw5 (onat os i) (place % 2 ^ (K - i - 1))) 1) (zat drawn i)
def pyz (q K : Nat) (r s : Int) (os : List OnZ) (last : List Int) (m place i : Nat) : Int :=
  if i + 1 < m then zat (rw5 (onat os (i + 1)) (place % 2 ^ (K - i - 2))) (place % 2 ^ (K - i - 1) / 2 ^ (K - i - 2)) % (q : Int)
  else evz q last (Dom.pt q (sqi q s (i + 1)) (sqi q r (i + 1)) (place % 2 ^ (K - i - 1)))
def pthz (q K : Nat) (r s : Int) (os : List OnZ) (last drawn : List Int) (place : Nat) : Bool := decide (∀ i, i < drawn.length → pxz q K r s os drawn place i = pyz q K r s os last drawn.length place i)
/-- what an Opening has to be for a place -/
structure OnOk (o : OnZ) (pl : Nat) : Prop where
  len : o.rows.length = o.ps.length
  plen : o.ps.length ≤ 281474976710656
  two : ∀ k, k < o.rows.length → (rat o.rows k).length = 2
  fit : ∀ k, k < o.rows.length → Fits (rat o.rows k)
  is : ∃ j, j < o.ps.length ∧ zat o.ps j = (pl : Int)

end Go.Proofs.YtgcjpddpolaofahGreat

namespace Go.Proofs.YtgcjpddpolaofahGreat
open Go.RowKit

/-- the chain behind some rounds -/
def ckD (q n : Nat) (roots : List (List Int)) (D : List Int) : Nat → List Int
  | 0 => D
  | i + 1 => digl q n (4 :: digl q n (3 :: (ckD q n roots D i ++ rat roots i)))
def ckr (q n : Nat) (roots : List (List Int)) (D : List Int) (i : Nat) : Int := zat (ckD q n roots D (i + 1)) 0
def ckL (q n : Nat) (roots : List (List Int)) (last D : List Int) (m : Nat) : List Int := digl q n (3 :: (ckD q n roots D m ++ last))
def ckA (q n K : Nat) (roots : List (List Int)) (last D : List Int) (m a : Nat) : List Int := ls (plz q n (2 ^ K / 2) (ckL q n roots last D m)) a
/-- it is shown -/
def CkP (q n K J : Nat) (r s : Int) (roots : List (List Int)) (last : List Int) (os : List OnZ) (D : List Int) (a : Nat) : Prop :=
  os.length = J - 2 ∧ tpn q (zat last) last.length ≤ 2 ^ (J - (J - 2)) ∧
  (∀ i, i < J - 2 → shz5 q n (rat roots i) ((2 ^ (K - i - 1) : Nat) : Int) (onat os i).ps (onat os i).rows (onat os i).nodes (mdz (ckA q n K roots last D (J - 2) a) (2 ^ (K - i - 1))) 2 = true) ∧
  ∀ j, j < a → pthz q K r s os last (ls (ckr q n roots D) (J - 2)) (zat (ckA q n K roots last D (J - 2) a) j).toNat = true
theorem ckD_len {q n : Nat} {roots : List (List Int)} {D : List Int} (h : D.length = 4) : ∀ i, (ckD q n roots D i).length = 4
  | 0 => h
  | _ + 1 => digl_len _ _ _
theorem ckD_fits {q n : Nat} (h3 : 3 ≤ q) (h4 : q ≤ 2147483647) {roots : List (List Int)} {D : List Int} (h : Fits D) : ∀ i, Fits (ckD q n roots D i)
  | 0 => h
  | _ + 1 => digl_fits h3 h4 _ _

/-- a voucher's Openings fit -/
def FitsF5 (os : List OnZ) : Prop := ∀ k, k < os.length → (onat os k).ps.length ≤ 281474976710656 ∧ (onat os k).rows.length ≤ 281474976710656 ∧ (onat os k).nodes.length ≤ 281474976710656 ∧ FitsR (onat os k).rows ∧ FitsR (onat os k).nodes

theorem shz5_ok {q n N : Nat} {root : List Int} {o : OnZ} {l : List Int} (_hN : 0 < N) (hps : o.ps.length ≤ 281474976710656) (hfr : FitsR o.rows) (h : shz5 q n root (N : Int) o.ps o.rows o.nodes (mdz l N) 2 = true) {pl : Nat} (hpl : ((pl : Nat) : Int) ∈ l) : OnOk o (pl % N) := by
  unfold shz5 at h
  rw [Bool.and_eq_true, Bool.and_eq_true, decide_eq_true_eq, decide_eq_true_eq] at h
  obtain ⟨⟨h1, h2⟩, h3⟩ := h
  have h4 : o.rows.length = o.ps.length := by
    by_cases hc : 1 ≤ (N : Int) ∧ (N : Int) ≤ 65536 ∧ o.rows.length = o.ps.length ∧ root.length = 4 ∧ AscN (N : Int) o.ps
    · exact hc.2.2.1
    · rw [chkf_no hc] at h3
      cases h3
  refine ⟨h4, hps, fun k hk => by have := h2 k hk; omega, fun k hk => (hfr k hk).1, ?_⟩
  rw [h1]
  have hm : (((pl % N : Nat)) : Int) ∈ mdz l N := ((onc_is _).2 _).2 (List.mem_map.2 ⟨_, hpl, by rw [← Int.natCast_emod]⟩)
  obtain ⟨j, hj, hz⟩ := mem_zat hm
  exact ⟨j, hj, hz⟩

end Go.Proofs.YtgcjpddpolaofahGreat

namespace Go.Proofs.YtgcjpddpolaofahGreat
open Go.RowKit

theorem fz5_ok {K J a : Nat} (hK : K ≤ 16) (hJ : J + 1 ≤ K) (ha1 : 1 ≤ a) (ha : a ≤ 64) : fz5 (2 ^ K) ((2 ^ J : Nat) : Int) (a : Int) = 0 := by
  have h1 : 2 ^ (J + 1) ≤ 2 ^ K := Nat.pow_le_pow_right (by omega) hJ
  have h2 : 2 ^ K ≤ 2 ^ 16 := Nat.pow_le_pow_right (by omega) hK
  have h0 : 0 < 2 ^ J := Nat.pow_pos (by decide)
  rw [Nat.pow_succ] at h1
  unfold fz5
  rw [if_pos ⟨by omega, (twb_iff (by omega)).2 ⟨J, by omega, rfl⟩, by omega, by omega⟩]

end Go.Proofs.YtgcjpddpolaofahGreat

namespace Go.Proofs.YtgcjpddpolaofahGreat
open Go.RowKit

end Go.Proofs.YtgcjpddpolaofahGreat
