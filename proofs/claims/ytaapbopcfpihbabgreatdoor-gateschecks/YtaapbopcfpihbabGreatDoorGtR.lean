/- Package gates: part. -/
import Derived.Test.YtaapbopcfpihbabGreatDoorGkAN
import Derived.Test.YtaapbopcfpihbabGreatDoorGkAL
namespace Go.Proofs.YtaapbopcfpihbabGreatDoor
open Go.RowKit

theorem zat_take {l : List Int} {m j : Nat} (h : j < m) : zat (l.take m) j = zat l j := by
  simp [zat, h]
theorem zat_drop (l : List Int) (m j : Nat) : zat (l.drop m) j = zat l (m + j) := by
  simp [zat, List.getElem?_drop]
/-- where l[m:] lies -/
def adS (a : Option Addr) (cap m : Nat) : Option Addr := if cap = m then a else a.map fun x => x.add m
theorem adS_row {n0 cap m : Nat} {w : World} {a : Option Addr} {l : List Int} (h : RowB n0 w a l) (hc : l.length ≤ cap) : RowB n0 w (adS a cap m) (l.drop m) := fun k hk => by
  rw [List.length_drop] at hk
  obtain ⟨b, o, rfl, h2, h3⟩ := h (m + k) (by omega)
  refine ⟨b, o + m, ?_, h2, ?_⟩
  · unfold adS
    rw [if_neg (show ¬ cap = m by omega), Option.map_some, Addr.add]
    by_cases e : m = 0
    · rw [if_pos e, e]
      rfl
    · rw [if_neg e]
  · rw [zat_drop, Nat.add_assoc]
    exact h3
theorem take_row {n0 m : Nat} {w : World} {a : Option Addr} {l : List Int} (h : RowB n0 w a l) : RowB n0 w a (l.take m) := fun k hk => by
  rw [List.length_take] at hk
  rw [zat_take (by omega)]
  exact h k (by omega)
theorem fits_take {l : List Int} (m : Nat) (h : Fits l) : Fits (l.take m) := fun k hk => by
  rw [List.length_take] at hk
  rw [zat_take (by omega)]
  exact h k (by omega)
theorem fits_drop {l : List Int} (m : Nat) (h : Fits l) : Fits (l.drop m) := fun k hk => by
  rw [List.length_drop] at hk
  rw [zat_drop]
  exact h (m + k) (by omega)


/-- a side as a value: a list, how many variables are left, a table that lies somewhere -/
def sdA (fv : Value) (r : Nat) (L : Nat) (a : Option Addr) (c : Nat) : Array Value := #[fv, .int .i64 (r : Int), .slice a L c]
def SdW (N1 : Nat) (ab : Option Addr) (w : World) (T : List Int) (a : Option Addr) (c : Nat) : Prop := Lst w.heap.size w a c T ∧ (a = ab ∨ ∃ g, a = some ⟨g, 0, none⟩ ∧ N1 ≤ g)
theorem SdW.below {N1 : Nat} {ab : Option Addr} {w w' : World} {T : List Int} {a : Option Addr} {c : Nat} (h : SdW N1 ab w T a c) (hb : Below w.heap.size w w') : SdW N1 ab w' T a c := ⟨(h.1.below hb).mono hb.size, h.2⟩
theorem SdW.setRow {N1 g : Nat} {ab : Option Addr} {w : World} {T : List Int} {a : Option Addr} {c : Nat} (h : SdW N1 ab w T a c) (hT : 0 < T.length) (hab : ∀ x, ab = some x → x.block < N1) (hg : N1 ≤ g) {sa : Option Addr} {sl sc : Nat} {u1 u2 : Value} {ty : TypeId} (hg2 : w.heap[g]? = some (.cells #[.slice sa sl sc, u1, u2] ty (0, 0))) (cs : Array Value) : SdW N1 ab (w.setRow g cs) T a c := by
  refine ⟨⟨fun q hq => ?_, h.1.room, h.1.nil⟩, h.2⟩
  obtain ⟨b', o', e1, e2, e4⟩ := h.1.row q hq
  have hne : b' ≠ g := by
    rcases h.2 with h2 | ⟨h', h2, hh⟩
    · have := hab _ (h2.symm.trans e1)
      simp only at this
      omega
    · rintro rfl
      rw [h2] at e1
      injection e1 with e1
      injection e1 with e7 e8 _
      subst e7
      obtain ⟨b3, o3, e5, _, e6⟩ := h.1.row 0 hT
      rw [h2] at e5
      injection e5 with e5
      injection e5 with e9 e10 _
      subst e9
      subst e10
      simp [World.cell?, hg2] at e6
  refine ⟨b', o', e1, by simpa [World.setRow] using e2, ?_⟩
  exact (World.cell?_of_block (w := w) (a := ⟨b', o' + q, none⟩) (setRow_other w g b' cs hne)).trans e4

def ptF (lv tb xv mv x1 y1 : Value) (N1 : Nat) (ab : Option Addr) (r1 r2 L1 L2 : Nat) (T1 T2 : List Int) (w : World) : Nat → Value → Prop
  | 0, v => v = lv
  | 1, v => v = tb
  | 2, v => v = xv
  | 3, v => v = mv
  | 4, v => v = x1
  | 5, v => ∃ a c, v = .agg (sdA x1 r1 L1 a c) ∧ SdW N1 ab w T1 a c
  | 6, v => v = lv
  | 7, v => v = tb
  | 8, v => v = xv
  | 9, v => v = mv
  | 10, v => v = y1
  | 11, v => ∃ a c, v = .agg (sdA y1 r2 L2 a c) ∧ SdW N1 ab w T2 a c
  | 12, v => ∃ g, v = .pointer (some ⟨g, 0, none⟩) ∧ N1 ≤ g ∧ w.heap[g]? = some (.cells #[.slice none 0 0, .int .i64 0, .slice none 0 0] 166 (0, 0))
  | 13, v => ∃ g, v = .pointer (some ⟨g, 0, none⟩) ∧ N1 ≤ g ∧ w.heap[g]? = some (.cells #[.slice none 0 0, .int .i64 0, .slice none 0 0] 166 (0, 0))
  | _, _ => True
theorem heap_some {w : World} {g : Nat} {x} (h : w.heap[g]? = some x) : g < w.heap.size := (Array.getElem?_eq_some_iff.1 h).1
theorem ptF_step {lv tb xv mv x1 y1 : Value} {N1 : Nat} {ab : Option Addr} {r1 r2 L1 L2 : Nat} {T1 T2 : List Int} {w w' : World} (hb : Below w.heap.size w w') : ∀ (k : Nat) (v : Value), ptF lv tb xv mv x1 y1 N1 ab r1 r2 L1 L2 T1 T2 w k v → ptF lv tb xv mv x1 y1 N1 ab r1 r2 L1 L2 T1 T2 w' k v
  | 0, _, h => h
  | 1, _, h => h
  | 2, _, h => h
  | 3, _, h => h
  | 4, _, h => h
  | 5, _, ⟨a, c, h1, h2⟩ => ⟨a, c, h1, h2.below hb⟩
  | 6, _, h => h
  | 7, _, h => h
  | 8, _, h => h
  | 9, _, h => h
  | 10, _, h => h
  | 11, _, ⟨a, c, h1, h2⟩ => ⟨a, c, h1, h2.below hb⟩
  | 12, _, ⟨g, h1, h2, h3⟩ => ⟨g, h1, h2, (hb.block g (heap_some h3)).trans h3⟩
  | 13, _, ⟨g, h1, h2, h3⟩ => ⟨g, h1, h2, (hb.block g (heap_some h3)).trans h3⟩
  | _ + 14, _, _ => trivial

/-- the two are unlike, where both are there -/
def ptN (L : Array Bool) (σ : Nat → Value) : Prop := L.getD 12 false = true → L.getD 13 false = true → σ 12 ≠ σ 13
theorem ptN.keep {L : Array Bool} {σ : Nat → Value} {i : Nat} {v : Value} (h : ptN L σ) (h1 : i ≠ 12) (h2 : i ≠ 13) : ptN (L.setIfInBounds i true) (upd' σ i v) := fun a b => by
  rw [getD_set_other h1] at a
  rw [getD_set_other h2] at b
  unfold upd'
  rw [if_neg (Ne.symm h1), if_neg (Ne.symm h2)]
  exact h a b
def ptA (lv tb zv xv mv : Value) (G kx n : Nat) (σ : Nat → Value) : Act :=
  { tmps := #[lv, tb, zv, xv, .pointer (some ⟨G, 0, none⟩), undef, undef, undef, .int .i64 0, mv, σ 12, σ 13, undef, undef, undef, undef, xv, .int .i64 (kx : Int), .pointer (some ⟨G, 2, none⟩), .int .i64 (n : Int), mv,
      σ 0, σ 1, σ 2, σ 3, σ 4, σ 5, σ 6, σ 7, σ 8, σ 9, σ 10, σ 11,
      undef, undef, undef, undef, undef, undef, undef, undef, undef, undef, undef, undef, undef, undef, undef, undef, undef, undef, undef, undef, undef, undef, undef, undef, undef, undef, undef, undef, undef, undef, undef, undef, undef, undef, undef, undef, undef, undef, undef, undef, undef, undef, undef, undef, undef, undef, undef, undef, undef, undef], defers := [] }
/-- what part's two sides come to -/
def ptE (x1 y1 : Value) (N1 : Nat) (ab : Option Addr) (r1 r2 L1 L2 : Nat) (T1 T2 : List Int) (b15 : Bool) (w : World) (σ : Nat → Value) : Prop := ∃ gx gy a1 c1 a2 c2, σ 12 = .pointer (some ⟨gx, 0, none⟩) ∧ σ 13 = .pointer (some ⟨gy, 0, none⟩) ∧ gx ≠ gy ∧ N1 ≤ gx ∧ N1 ≤ gy ∧
  w.heap[gx]? = some (.cells (sdA x1 r1 L1 a1 c1) 166 (0, 0)) ∧ SdW N1 ab w T1 a1 c1 ∧ SdW N1 ab w T2 a2 c2 ∧
  (b15 = false → w.heap[gy]? = some (.cells #[.slice none 0 0, .int .i64 0, .slice none 0 0] 166 (0, 0)) ∧ σ 11 = .agg (sdA y1 r2 L2 a2 c2)) ∧
  (b15 = true → w.heap[gy]? = some (.cells (sdA y1 r2 L2 a2 c2) 166 (0, 0)))
structure PtI (lv tb zv xv mv x1 y1 : Value) (G kx n : Nat) (ab : Option Addr) (r1 r2 L1 L2 : Nat) (T1 T2 : List Int) (W1 : World) (L : Array Bool) (a : Act) (w : World) : Prop where
  below : Below W1.heap.size W1 w
  told : ∃ σ, a = ptA lv tb zv xv mv G kx n σ ∧ (L.getD 14 false = false → Told 14 (ptF lv tb xv mv x1 y1 W1.heap.size ab r1 r2 L1 L2 T1 T2) L w σ ∧ ptN L σ) ∧ (L.getD 14 false = true → ptE x1 y1 W1.heap.size ab r1 r2 L1 L2 T1 T2 (L.getD 15 false) w σ)
theorem PtI.next {lv tb zv xv mv x1 y1 : Value} {G kx n : Nat} {ab : Option Addr} {r1 r2 L1 L2 : Nat} {T1 T2 : List Int} {W1 : World} {L : Array Bool} {w w' : World} {σ : Nat → Value} {i : Nat} {v : Value} {a' : Act} (hb : Below W1.heap.size W1 w') (hn : L.getD 14 false = false) (hi : i ≠ 14) (ht : Told 14 (ptF lv tb xv mv x1 y1 W1.heap.size ab r1 r2 L1 L2 T1 T2) L w σ) (hN : ptN (L.setIfInBounds i true) (upd' σ i v)) (hbw : Below w.heap.size w w') (hv : ptF lv tb xv mv x1 y1 W1.heap.size ab r1 r2 L1 L2 T1 T2 w' i v) (ha : a' = ptA lv tb zv xv mv G kx n (upd' σ i v)) : PtI lv tb zv xv mv x1 y1 G kx n ab r1 r2 L1 L2 T1 T2 W1 (L.setIfInBounds i true) a' w' :=
  ⟨hb, upd' σ i v, ha, fun _ => ⟨ht.one (ptF_step hbw) hv, hN⟩, fun h => by rw [getD_set_other hi, hn] at h; cases h⟩

end Go.Proofs.YtaapbopcfpihbabGreatDoor
