/- The reference of programs as text: expressions in memory; results one behind the other. The reference of programs as text: let. The reference of programs as text: need. -/
import Derived.Test.YthemehdcakimgaiGreatDoorBgAM
namespace Go.Proofs.YthemehdcakimgaiGreatDoor
open Go.RowKit

/-- what the reference calls a part -/
def opS : Nat → List UInt8
  | 0 => [110, 117, 109, 98, 101, 114]
  | 1 => [110, 97, 109, 101]
  | 2 => [99, 97, 108, 108]
  | 3 => [110, 101, 103]
  | 4 => [43]
  | 5 => [45]
  | 6 => [42]
  | 7 => [47]
  | 8 => [61, 61]
  | 9 => [108, 101, 116]
  | 10 => [110, 101, 101, 100]
  | 11 => [105, 102]
  | _ => []
mutual
/-- an expression of the reference in memory: B holds of each of its blocks -/
def XTB (B : Nat → Prop) (w : World) : Tr → Value → Prop
  | .node k nm at' n kids, v => ∃ b a c A, v = .pointer (some ⟨b, 0, none⟩) ∧ B b ∧ w.heap[b]? = some (.cells #[.string (bs (opS k)), .string (bs nm), .int .i64 (n : Int), .int .i64 A, .slice a kids.length c] 97 (0, 0)) ∧ ((k = 1 ∨ k = 2 ∨ k = 9) → A = (at' : Int)) ∧ XTBs B w a kids 0
def XTBs (B : Nat → Prop) (w : World) (a : Option Addr) : List Tr → Nat → Prop
  | [], _ => True
  | t :: r, i => (∃ g v, a = some ⟨g, 0, none⟩ ∧ B g ∧ w.cell? ⟨g, i, none⟩ = some v ∧ XTB B w t v) ∧ XTBs B w a r (i + 1)
end
mutual
theorem XTB.keep {B B' : Nat → Prop} {w w' : World} (hk : ∀ b, B b → b < w.heap.size → B' b ∧ w'.heap[b]? = w.heap[b]?) : ∀ (t : Tr) (v : Value), XTB B w t v → XTB B' w' t v
  | .node k nm at' n kids, v, h => by
    obtain ⟨b, a, c, A, h1, h2, h3, h4, h5⟩ := h
    obtain ⟨k1, k2⟩ := hk b h2 (Array.getElem?_eq_some_iff.1 h3).1
    exact ⟨b, a, c, A, h1, k1, k2.trans h3, h4, XTBs.keep hk a kids 0 h5⟩
theorem XTBs.keep {B B' : Nat → Prop} {w w' : World} (hk : ∀ b, B b → b < w.heap.size → B' b ∧ w'.heap[b]? = w.heap[b]?) (a : Option Addr) : ∀ (ts : List Tr) (i : Nat), XTBs B w a ts i → XTBs B' w' a ts i
  | [], _, _ => trivial
  | t :: r, i, h => by
    obtain ⟨⟨g, v, h1, h2, h3, h4⟩, h5⟩ := h
    have hl := World.block_lt_of_cell? _ _ h3
    obtain ⟨k1, k2⟩ := hk g h2 hl
    refine ⟨⟨g, v, h1, k1, ?_, XTB.keep hk t v h4⟩, XTBs.keep hk a r (i + 1) h5⟩
    unfold World.cell? at h3 ⊢
    rw [k2]
    exact h3
end
/-- .. its blocks lie from lo on -/
def XT (lo : Nat) (w : World) (t : Tr) (v : Value) : Prop := XTB (fun b => lo ≤ b) w t v
def XTs (lo : Nat) (w : World) (a : Option Addr) (ts : List Tr) (i : Nat) : Prop := XTBs (fun b => lo ≤ b) w a ts i
theorem XT.keep {lo : Nat} {w w' : World} (hk : ∀ b, lo ≤ b → b < w.heap.size → w'.heap[b]? = w.heap[b]?) (t : Tr) (v : Value) (h : XT lo w t v) : XT lo w' t v := XTB.keep (fun b h1 h2 => ⟨h1, hk b h1 h2⟩) t v h
theorem XT.fr {R lo : Nat} {w w' : World} {t : Tr} {v : Value} (h : XT lo w t v) (f : Fr R w w') (hlo : R < lo) : XT lo w' t v := XT.keep (fun _ h1 h2 => f.keep (by omega) h2) t v h
theorem XT.below {lo : Nat} {w w' : World} {t : Tr} {v : Value} (h : XT lo w t v) (f : Below w.heap.size w w') : XT lo w' t v := XT.keep (fun b _ h2 => f.block b h2) t v h
theorem XT.mono {lo lo' : Nat} {w : World} {t : Tr} {v : Value} (h : XT lo w t v) (hl : lo' ≤ lo) : XT lo' w t v := XTB.keep (fun _ h1 _ => ⟨Nat.le_trans hl h1, rfl⟩) t v h
theorem XTBs_of {B : Nat → Prop} {w : World} {g : Nat} (hg : B g) : ∀ (ts : List Tr) (i : Nat), (∀ j, j < ts.length → ∃ v, w.cell? ⟨g, i + j, none⟩ = some v ∧ ∀ t, ts[j]? = some t → XTB B w t v) → XTBs B w (some ⟨g, 0, none⟩) ts i
  | [], _, _ => trivial
  | t :: r, i, h => by
    obtain ⟨v, h1, h2⟩ := h 0 (by simp)
    refine ⟨⟨g, v, rfl, hg, h1, h2 t rfl⟩, XTBs_of hg r (i + 1) fun j hj => ?_⟩
    obtain ⟨v, h1, h2⟩ := h (j + 1) (by simpa using hj)
    exact ⟨v, by rw [show i + 1 + j = i + (j + 1) by omega]; exact h1, fun t ht => h2 t ht⟩

/-- two results, one behind the other -/
def Res.cr {α β : Type} (r : Res α) (p : Nat → Res β) : Res (α × β) := r.bind fun x j => (p j).bind fun t a => .ok (x, t) a
/-- a sign behind a result -/
def Res.wn {α : Type} (L : List UInt8) (k : Nat) (r : Res α) : Res α := r.bind fun x j => (pTake L k j).bind fun _ a => .ok x a
theorem Res.cr_ok {α β : Type} {r : Res α} {p : Nat → Res β} {x : α} {t : β} {j : Nat} (h : r.cr p = .ok (x, t) j) : ∃ a, r = .ok x a ∧ p a = .ok t j := by
  cases r with
  | out => cases h
  | bad e a => cases h
  | ok y a =>
    cases hp : p a with
    | out => simp [Res.cr, Res.bind, hp] at h
    | bad e b => simp [Res.cr, Res.bind, hp] at h
    | ok s b =>
      simp [Res.cr, Res.bind, hp] at h
      obtain ⟨⟨rfl, rfl⟩, rfl⟩ := h
      exact ⟨a, rfl, hp⟩
theorem Res.wn_ok {α : Type} {L : List UInt8} {k : Nat} {r : Res α} {x : α} {j : Nat} (h : r.wn L k = .ok x j) : ∃ a, r = .ok x a := by
  cases r with
  | out => cases h
  | bad e a => cases h
  | ok y a =>
    cases hp : pTake L k a with
    | out => simp [Res.wn, Res.bind, hp] at h
    | bad e b => simp [Res.wn, Res.bind, hp] at h
    | ok s b =>
      simp [Res.wn, Res.bind, hp] at h
      exact ⟨a, by rw [h.1]⟩
theorem Res.cr_of {α β : Type} {r : Res α} {p : Nat → Res β} {x : α} {t : β} {j : Nat} (h : r.cr p = .ok (x, t) j) : (r.bind fun _ j => p j) = .ok t j := by
  obtain ⟨a, h1, h2⟩ := Res.cr_ok h
  rw [h1]
  exact h2
theorem Res.cr_out {α β : Type} {r : Res α} {p : Nat → Res β} (h : r.cr p ≠ .out) : (r.bind fun _ j => p j) ≠ .out := by
  intro e
  apply h
  cases r with
  | out => rfl
  | bad e' a => cases e
  | ok y a =>
    have e : p a = .out := e
    simp [Res.cr, Res.bind, e]
theorem Res.out_cr {α β : Type} {r : Res α} {p : Nat → Res β} (h : r.cr p ≠ .out) : r ≠ .out := fun e => h (by rw [e]; rfl)
theorem Res.out_wn {α : Type} {L : List UInt8} {k : Nat} {r : Res α} (h : r.wn L k ≠ .out) : r ≠ .out := fun e => h (by rw [e]; rfl)
theorem Res.out_bind {α β : Type} {r : Res α} {f : α → Nat → Res β} (h : r.bind f ≠ .out) : r ≠ .out := fun e => h (by rw [e]; rfl)
section
variable {w w' : World} {R : Nat} {T : ByteArray} {l : Nat} {α β : Type}
theorem RgW.cr {r : Res α} {p : Nat → Res β} (h : RgW w R T (r.bind fun _ j => p j) l) : RgW w R T (r.cr p) l := by
  refine h.of ?_
  cases r with
  | out => rfl
  | bad e a => rfl
  | ok y a => cases hp : p a <;> simp [Res.cr, Res.bind, hp]
theorem RgW.map {r : Res α} (h : RgW w R T r l) (f : α → β) : RgW w R T (r.bind fun x j => .ok (f x) j) l := by
  refine h.of ?_
  cases r <;> rfl
theorem RgW.at {r : Res α} (h : RgW w R T r l) : ∃ A : Int, w.cell? ⟨R, 1, none⟩ = some (.int .i64 A) ∧ ∀ x a, r = .ok x a → (tok (by' T) a).kind ≠ 0 → A = ((tok (by' T) a).at' : Int) := by
  rcases h.cases with ⟨x, j, rfl, hg⟩ | ⟨e, a, ⟨_, A, _, _, hR⟩, hr⟩
  · exact ⟨_, hg.h.c1, fun x' a' e _ => by injection e with _ e; rw [e]⟩
  · refine ⟨A, hR.c1, fun x a' e hk => ?_⟩
    rcases hr with h1 | ⟨x', j', h1, h2, _⟩
    · rw [h1] at e; cases e
    · rw [h1] at e; injection e with _ e; subst e; exact absurd h2 hk
/-- one level back -/
theorem RgW.back {r : Res α} (h : RgW w R T r (l + 1)) : ∃ d : Int, w.cell? ⟨R, 3, none⟩ = some (.int .i64 d) ∧ w.frozen? ⟨R, 3, none⟩ = false ∧ RgW (w.setCell ⟨R, 3, none⟩ (.int .i64 (IntKind.i64.wrap (d - 1)))) R T r l := by
  cases r with
  | out => exact h.elim
  | bad e a =>
    obtain ⟨he, x, y, z, hR⟩ := h
    exact ⟨z, hR.c3, hR.fz 3, he, _, _, _, hR.s3 _⟩
  | ok x j =>
    rcases h with h | ⟨h1, he, x, y, z, hR⟩
    · refine ⟨_, h.h.c3, h.h.fz 3, Or.inl ⟨?_, h.ok, h.le, h.small, by have := h.lev; omega⟩⟩
      have e : IntKind.i64.wrap (((l + 1 : Nat) : Int) - 1) = (l : Nat) := by rw [IntKind.wrap_i64]; have := h.lev; omega
      rw [e]
      exact h.h.s3 _
    · exact ⟨z, hR.c3, hR.fz 3, Or.inr ⟨h1, he, _, _, _, hR.s3 _⟩⟩
/-- is there a fault? -/
theorem RgW.err {r : Res α} (h : RgW w R T r l) : ∃ E : Int, w.cell? ⟨R, 4, none⟩ = some (.int .i64 E) ∧ ((E = 0 ∧ ∃ x j, r = .ok x j ∧ RgG w R T j l) ∨ (E ≠ 0 ∧ ∃ e a, RgF w R T e a ∧ (r = .bad e a ∨ ∃ x j, r = .ok x j ∧ (tok (by' T) j).kind = 0 ∧ e = 5 ∧ a = (tok (by' T) j).at'))) := by
  rcases h.cases with ⟨x, j, rfl, hg⟩ | ⟨e, a, hf, hr⟩
  · exact ⟨0, hg.h.c4, Or.inl ⟨rfl, x, j, rfl, hg⟩⟩
  · obtain ⟨he, A, tk, dp, hR⟩ := hf
    exact ⟨e, hR.c4, Or.inr ⟨by omega, e, a, ⟨he, A, tk, dp, hR⟩, hr⟩⟩
end
theorem pName_at {L : List UInt8} {a j : Nat} {x : List UInt8 × Nat} (h : pName L a = .ok x j) : (tok L a).kind ≠ 0 ∧ x.2 = (tok L a).at' := by
  unfold pName pTake at h
  by_cases hk : (tok L a).kind = 2
  · rw [if_pos hk] at h
    refine ⟨by omega, ?_⟩
    simp only [Res.bind] at h
    split at h
    · cases h
    · injection h with h _
      rw [← h]
  · rw [if_neg hk] at h
    cases h
/-- how an expression's reading ends -/
def XR (R : Nat) (T : ByteArray) (r : Res Tr) (l : Nat) (w : World) (en : Ending) (w' : World) : Prop := ∃ p : Option Addr, en = .returned (.pointer p) ∧ Fr R w w' ∧ RgW w' R T r l ∧ ∀ t j, r = .ok t j → XT w.heap.size w' t (.pointer p)
/-- what expr, sum, product and part do -/
def EXP (R : Nat) (T : ByteArray) (f : Nat) : Prop := ∀ (α : Type) (r : Res α) (l : Nat) (w : World), RgW w R T r l → (r.bind fun _ j => pExpr (by' T) f j l) ≠ .out → Calls Tryz.prog 34 #[.pointer (some ⟨R, 0, none⟩)] w (XR R T (r.bind fun _ j => pExpr (by' T) f j l) l w)
def SUM (R : Nat) (T : ByteArray) (f : Nat) : Prop := ∀ (α : Type) (r : Res α) (l : Nat) (w : World), RgW w R T r l → (r.bind fun _ j => pSum (by' T) f j l) ≠ .out → Calls Tryz.prog 57 #[.pointer (some ⟨R, 0, none⟩)] w (XR R T (r.bind fun _ j => pSum (by' T) f j l) l w)
def PRD (R : Nat) (T : ByteArray) (f : Nat) : Prop := ∀ (α : Type) (r : Res α) (l : Nat) (w : World), RgW w R T r l → (r.bind fun _ j => pProd (by' T) f j l) ≠ .out → Calls Tryz.prog 79 #[.pointer (some ⟨R, 0, none⟩)] w (XR R T (r.bind fun _ j => pProd (by' T) f j l) l w)
def PRT (R : Nat) (T : ByteArray) (f : Nat) : Prop := ∀ (α : Type) (r : Res α) (l : Nat) (w : World), RgW w R T r l → (r.bind fun _ j => pPart (by' T) f j l) ≠ .out → Calls Tryz.prog 99 #[.pointer (some ⟨R, 0, none⟩)] w (XR R T (r.bind fun _ j => pPart (by' T) f j l) l w)
/-- where a sign stands that is none, nothing is read -/
theorem pPart_zero {L : List UInt8} {f a l : Nat} (h : (tok L a).kind = 0) : pPart L f a l = .out ∨ pPart L f a l = .bad 5 (tok L a).at' := by
  cases f with
  | zero => exact Or.inl (by rw [pPart])
  | succ f =>
    rw [pPart, if_neg (by omega), if_neg (by omega), if_neg (by omega)]
    exact Or.inr (pNum_not (by omega))
theorem pProd_zero {L : List UInt8} {f a l : Nat} (h : (tok L a).kind = 0) : pProd L f a l = .out ∨ pProd L f a l = .bad 5 (tok L a).at' := by
  cases f with
  | zero => exact Or.inl (by rw [pProd])
  | succ f =>
    rw [pProd]
    rcases pPart_zero (f := f) (l := l) h with e | e <;> rw [e]
    · exact Or.inl rfl
    · exact Or.inr rfl
theorem pSum_zero {L : List UInt8} {f a l : Nat} (h : (tok L a).kind = 0) : pSum L f a l = .out ∨ pSum L f a l = .bad 5 (tok L a).at' := by
  cases f with
  | zero => exact Or.inl (by rw [pSum])
  | succ f =>
    rw [pSum]
    rcases pProd_zero (f := f) (l := l) h with e | e <;> rw [e]
    · exact Or.inl rfl
    · exact Or.inr rfl
theorem pExpr_zero {L : List UInt8} {f a l : Nat} (h : (tok L a).kind = 0) : pExpr L f a l = .out ∨ pExpr L f a l = .bad 5 (tok L a).at' := by
  cases f with
  | zero => exact Or.inl (by rw [pExpr])
  | succ f =>
    rw [pExpr, if_neg (by omega), if_neg (by omega), if_neg (by omega)]
    rcases pSum_zero (f := f) (l := l) h with e | e <;> rw [e]
    · exact Or.inl rfl
    · exact Or.inr rfl

end Go.Proofs.YthemehdcakimgaiGreatDoor

namespace Go.Proofs.YthemehdcakimgaiGreatDoor
open Go.RowKit

/-- a part that is being made, while the text is read on -/
structure LS {α : Type} (R : Nat) (T : ByteArray) (w : World) (X : Nat) (W : World) (q : Res α) (lev : Nat) (op nm : ByteArray) (A : Int) (kv : Value) : Prop where
  fr : Fr R w W
  rm : RgW W R T q lev
  xb : W.heap[X]? = some (.cells #[.string op, .string nm, .int .i64 0, .int .i64 A, kv] 97 (0, 0))
  hX : w.heap.size ≤ X
  hR : R < w.heap.size
section
variable {α β : Type} {R X lev lev' : Nat} {T op nm : ByteArray} {w W W' : World} {q : Res α} {q' : Res β} {A : Int} {kv : Value}
theorem LS.lt (h : LS R T w X W q lev op nm A kv) : X < W.heap.size := (Array.getElem?_eq_some_iff.1 h.xb).1
theorem LS.step (h : LS R T w X W q lev op nm A kv) (f : Fr R W W') (m : RgW W' R T q' lev') : LS R T w X W' q' lev' op nm A kv :=
  ⟨h.fr.trans f, m, (f.2 X h.lt (by have := h.hX; have := h.hR; omega)).trans h.xb, h.hX, h.hR⟩
theorem LS.alloc (h : LS R T w X W q lev op nm A kv) (o : Obj) : LS R T w X (W.alloc o) q lev op nm A kv :=
  h.step (Fr.below ((Below.refl _ _).alloc (Nat.le_refl _) _) (Nat.le_of_lt h.rm.lt)) (h.rm.keep (heap_alloc_old _ _ h.rm.lt))
theorem LS.put3 (h : LS R T w X W q lev op nm A kv) (z : Int) : LS R T w X (W.setCell ⟨X, 3, none⟩ (.int .i64 z)) q lev op nm z kv :=
  ⟨h.fr.setNew h.hX h.hR 3 _, h.rm.keep (heap_setCell_other _ _ _ _ (by show R ≠ X; have := h.hX; have := h.hR; omega)), heap_setCell_same _ X 3 _ _ _ h.xb, h.hX, h.hR⟩
theorem LS.put1 (h : LS R T w X W q lev op nm A kv) (z : ByteArray) : LS R T w X (W.setCell ⟨X, 1, none⟩ (.string z)) q lev op z A kv :=
  ⟨h.fr.setNew h.hX h.hR 1 _, h.rm.keep (heap_setCell_other _ _ _ _ (by show R ≠ X; have := h.hX; have := h.hR; omega)), heap_setCell_same _ X 1 _ _ _ h.xb, h.hX, h.hR⟩
theorem LS.put0 (h : LS R T w X W q lev op nm A kv) (z : ByteArray) : LS R T w X (W.setCell ⟨X, 0, none⟩ (.string z)) q lev z nm A kv :=
  ⟨h.fr.setNew h.hX h.hR 0 _, h.rm.keep (heap_setCell_other _ _ _ _ (by show R ≠ X; have := h.hX; have := h.hR; omega)), heap_setCell_same _ X 0 _ _ _ h.xb, h.hX, h.hR⟩
theorem LS.put4 (h : LS R T w X W q lev op nm A kv) (v : Value) : LS R T w X (W.setCell ⟨X, 4, none⟩ v) q lev op nm A v :=
  ⟨h.fr.setNew h.hX h.hR 4 _, h.rm.keep (heap_setCell_other _ _ _ _ (by show R ≠ X; have := h.hX; have := h.hR; omega)), heap_setCell_same _ X 4 _ _ _ h.xb, h.hX, h.hR⟩
theorem LS.c0 (h : LS R T w X W q lev op nm A kv) : W.cell? ⟨X, 0, none⟩ = some (.string op) := by simp [World.cell?, h.xb]
theorem LS.c1 (h : LS R T w X W q lev op nm A kv) : W.cell? ⟨X, 1, none⟩ = some (.string nm) := by simp [World.cell?, h.xb]
theorem LS.c3 (h : LS R T w X W q lev op nm A kv) : W.cell? ⟨X, 3, none⟩ = some (.int .i64 A) := by simp [World.cell?, h.xb]
theorem LS.c4 (h : LS R T w X W q lev op nm A kv) : W.cell? ⟨X, 4, none⟩ = some kv := by simp [World.cell?, h.xb]
theorem LS.fz (h : LS R T w X W q lev op nm A kv) (i : Nat) : W.frozen? ⟨X, i, none⟩ = false := frozen_of_row W X i _ _ h.xb
/-- one level back, at the end -/
theorem LS.back (h : LS R T w X W q (lev + 1) op nm A kv) : ∃ d dd : Int, W.cell? ⟨R, 3, none⟩ = some (.int .i64 d) ∧ IntKind.i64.wrap (d - 1) = dd ∧ W.frozen? ⟨R, 3, none⟩ = false ∧ LS R T w X (W.setCell ⟨R, 3, none⟩ (.int .i64 dd)) q lev op nm A kv := by
  obtain ⟨d, h1, h2, h3⟩ := h.rm.back
  exact ⟨d, _, h1, rfl, h2, h.fr.set 3 _, h3, (heap_setCell_other _ _ _ _ (by show X ≠ R; have := h.hX; have := h.hR; omega)).trans h.xb, h.hX, h.hR⟩
/-- an expression that stays -/
theorem XT.put {lo : Nat} {t : Tr} {v : Value} (h : XT lo W t v) (hX : X < lo) (i : Nat) (x : Value) : XT lo (W.setCell ⟨X, i, none⟩ x) t v :=
  XT.keep (fun b h1 _ => heap_setCell_other _ _ _ _ (by show b ≠ X; omega)) t v h
end
theorem Res.bind_ok {α β : Type} {r : Res α} {f : α → Nat → Res β} {y : β} {j : Nat} (h : r.bind f = .ok y j) : ∃ x a, r = .ok x a ∧ f x a = .ok y j := by
  cases r with
  | out => cases h
  | bad e a => cases h
  | ok x a => exact ⟨x, a, rfl, h⟩

set_option maxRecDepth 100000 in
set_option maxHeartbeats 2000000 in
theorem rexpr_let (R : Nat) (T : ByteArray) (f j l : Nat) (w : World) (hE : EXP R T f) (hg : RgG w R T j l) (hk : (tok (by' T) j).kind = 5) (q : Res Tr) (hq : q = pExpr (by' T) (f + 1) j l) (hro : q ≠ .out) :
    Calls Tryz.prog 34 #[.pointer (some ⟨R, 0, none⟩)] w (XR R T q l w) := by
  have hmx : Tryz.prog.follows .mixedOrders = true := by kernel_rfl
  have htx := (tok_spl (by' T) j 5 (by decide) (by decide)).1 hk
  have hlt := hg.h.lt
  have c1 := hg.h.c1
  have c2 := hg.h.c2
  have c4 := hg.h.c4
  have ht1 : ((bs (tok (by' T) j).text).toList == [108, 101, 116]) = true := by rw [bs_list, htx]; rfl
  have HTX : Hid (bs (tok (by' T) j).text = bs (opS 9)) := by unfold Hid; rw [htx]; rfl
  obtain ⟨q1, hq1⟩ : ∃ q1, q1 = pEnter (by' T) 5 j l := ⟨_, rfl⟩
  obtain ⟨q2, hq2⟩ : ∃ q2, q2 = q1.cr (pName (by' T)) := ⟨_, rfl⟩
  obtain ⟨q3, hq3⟩ : ∃ q3, q3 = q2.wn (by' T) 14 := ⟨_, rfl⟩
  obtain ⟨q4, hq4⟩ : ∃ q4, q4 = q3.cr (fun a => pExpr (by' T) f a (l + 1)) := ⟨_, rfl⟩
  obtain ⟨q5, hq5⟩ : ∃ q5, q5 = q4.wn (by' T) 13 := ⟨_, rfl⟩
  obtain ⟨q6, hq6⟩ : ∃ q6, q6 = q5.cr (fun a => pExpr (by' T) f a (l + 1)) := ⟨_, rfl⟩
  have hqq : q = q6.bind fun z a => .ok (.node 9 z.1.1.2.1 z.1.1.2.2 0 [z.1.2, z.2]) a := by
    rw [hq, pExpr, if_pos hk, hq6, hq5, hq4, hq3, hq2, hq1]
    cases pEnter (by' T) 5 j l with
    | out => rfl
    | bad e a => rfl
    | ok _ a1 =>
      simp only [Res.cr, Res.wn, Res.bind]
      cases pName (by' T) a1 with
      | out => rfl
      | bad e a => rfl
      | ok nm a2 =>
        dsimp only
        cases pTake (by' T) 14 a2 with
        | out => rfl
        | bad e a => rfl
        | ok _ a3 =>
          dsimp only
          cases pExpr (by' T) f a3 (l + 1) with
          | out => rfl
          | bad e a => rfl
          | ok x a4 =>
            dsimp only
            cases pTake (by' T) 13 a4 with
            | out => rfl
            | bad e a => rfl
            | ok _ a5 =>
              dsimp only
              cases pExpr (by' T) f a5 (l + 1) with
              | out => rfl
              | bad e a => rfl
              | ok y a6 => rfl
  have n6 : q6 ≠ .out := Res.out_bind (by rw [← hqq]; exact hro)
  have n5 : q5 ≠ .out := Res.out_cr (by rw [← hq6]; exact n6)
  have n4 : q4 ≠ .out := Res.out_wn (by rw [← hq5]; exact n5)
  have HNM := hid (fun (W : World) (h : RgW W R T q1 (l + 1)) => rname_any R (l + 1) T q1 W h)
  have HW14 := hid (fun (W : World) (h : RgW W R T q2 (l + 1)) => rwant_any R (l + 1) 14 T ⟨#[61]⟩ q2 W h (by decide) (by decide) rfl)
  have HE4 := hid (fun (W : World) (h : RgW W R T q3 (l + 1)) => hE _ q3 (l + 1) W h (Res.cr_out (by rw [← hq4]; exact n4)))
  have HW13 := hid (fun (W : World) (h : RgW W R T q4 (l + 1)) => rwant_any R (l + 1) 13 T ⟨#[59]⟩ q4 W h (by decide) (by decide) rfl)
  have HE6 := hid (fun (W : World) (h : RgW W R T q5 (l + 1)) => hE _ q5 (l + 1) W h (Res.cr_out (by rw [← hq6]; exact n6)))
  have HQ2 := hid hq2
  have HQ3 := hid hq3
  have HQ4 := hid hq4
  have HQ5 := hid hq5
  have HQ6 := hid hq6
  have HQQ := hid hqq
  obtain ⟨W0, hW0⟩ : ∃ W0, W0 = (w.alloc (.cells #[.string (bs (tok (by' T) j).text), .string ⟨#[]⟩, .int .i64 0, .int .i64 ((tok (by' T) j).at' : Int), .slice none 0 0] 97)).drew := ⟨_, rfl⟩
  have hb0 : Below w.heap.size w W0 := by rw [hW0]; exact ((Below.refl w.heap.size w).alloc (Nat.le_refl _) _).drew
  have hg0 : RgG W0 R T j l := hg.keep (hb0.block _ hlt)
  have HX0 : Hid (LS R T w w.heap.size W0 (.ok () j : Res Unit) l (bs (tok (by' T) j).text) ⟨#[]⟩ ((tok (by' T) j).at' : Int) (.slice none 0 0)) := ⟨Fr.below hb0 (Nat.le_of_lt hlt), Or.inl hg0, by rw [hW0]; exact heap_alloc_new w _, Nat.le_refl _, hlt⟩
  have HDP := hid (rdeep_any R j l 5 T W0 hg0 hk)
  rw [← hq1] at HDP
  have e4 := hg0.h.c4
  have e2 := hg0.h.c2
  obtain ⟨X, hX⟩ : ∃ X, X = w.heap.size := ⟨_, rfl⟩
  rw [← hX] at HX0
  have HXX := hid hX
  generalize bs (tok (by' T) j).text = tx at *
  generalize (tok (by' T) j).at' = at' at *
  clear hE hg hk hq hro htx hq1 hq2 hq3 hq4 hq5 hq6 hqq n6 n5 n4 hb0 hg0
  go_enter Tryz.func34, Tryz.ntmps34
  go_wp2_with fail
  go_still_tail 9, hmx
  go_wp2_with fail
  rw [← hW0, ← hX]
  clear hW0 hX
  refine HDP.out.mono ?_
  rintro e w1 ⟨b, rfl, hf1, hm1⟩
  have HX1 := hid (HX0.out.step hf1 hm1)
  obtain ⟨A, r1, hA⟩ := hm1.at
  have HA := hid hA
  have x3 := HX1.out.c3
  have y3 := HX1.out.fz 3
  clear hf1 hm1 hA e2 e4 c1 c2 c4
  go_wp2_with fail
  have HX2 := hid (HX1.out.put3 A)
  generalize w1.setCell ⟨X, 3, none⟩ (.int .i64 A) = w2 at *
  refine (HNM.out w2 HX2.out.rm).mono ?_
  rintro e w3 ⟨v, rfl, hf3, hm3, hv3⟩
  have HX3 := hid (HX2.out.step hf3 hm3.cr)
  rw [← HQ2.out] at HX3
  have HV3 := hid hv3
  have x1 := HX3.out.c1
  have y1 := HX3.out.fz 1
  clear hf3 hm3 hv3 x3 y3 r1
  go_wp2_with fail
  have HX4 := hid (HX3.out.put1 v)
  generalize w3.setCell ⟨X, 1, none⟩ (.string v) = w4 at *
  refine (HW14.out w4 HX4.out.rm).mono ?_
  rintro e w5 ⟨rfl, hf5, hm5⟩
  have HX5 : Hid (LS R T w X w5 q3 (l + 1) tx v A (.slice none 0 0)) := by unfold Hid; rw [HQ3.out]; exact HX4.out.step hf5 hm5
  clear hf5 hm5 x1 y1
  go_wp2_with fail
  refine (HE4.out w5 HX5.out.rm).mono ?_
  rintro e w6 ⟨va, rfl, hf6, hm6, ht6⟩
  have HX6 : Hid (LS R T w X w6 q4 (l + 1) tx v A (.slice none 0 0)) := by unfold Hid; rw [HQ4.out]; exact HX5.out.step hf6 hm6.cr
  have HT6 := hid ht6
  have HL5 := hid HX5.out.lt
  clear hf6 hm6 ht6
  go_wp2_with fail
  refine (HW13.out w6 HX6.out.rm).mono ?_
  rintro e w7 ⟨rfl, hf7, hm7⟩
  have HX7 : Hid (LS R T w X w7 q5 (l + 1) tx v A (.slice none 0 0)) := by unfold Hid; rw [HQ5.out]; exact HX6.out.step hf7 hm7
  have hR5 : R < w5.heap.size := HX5.out.rm.lt
  have HT7 : Hid (∀ t j, (q3.bind fun _ a => pExpr (by' T) f a (l + 1)) = .ok t j → XT w5.heap.size w7 t (.pointer va)) := fun t j h => (HT6.out t j h).fr hf7 hR5
  clear hf7 hm7 HT6
  go_wp2_with fail
  refine (HE6.out w7 HX7.out.rm).mono ?_
  rintro e w8 ⟨vb, rfl, hf8, hm8, ht8⟩
  have HX8 : Hid (LS R T w X w8 q6 (l + 1) tx v A (.slice none 0 0)) := by unfold Hid; rw [HQ6.out]; exact HX7.out.step hf8 hm8.cr
  have HT8 := hid ht8
  have HL7 := hid HX7.out.lt
  have HT7b : Hid (∀ t j, (q3.bind fun _ a => pExpr (by' T) f a (l + 1)) = .ok t j → XT w5.heap.size w8 t (.pointer va)) := fun t j h => (HT7.out t j h).fr hf8 hR5
  clear hf8 hm8 ht8 HT7
  obtain ⟨W9, hW9⟩ : ∃ W9, w8.alloc (.cells #[.pointer va, .pointer vb] 40) = W9 := ⟨_, rfl⟩
  have HX9 : Hid (LS R T w X W9 q6 (l + 1) tx v A (.slice none 0 0)) := by unfold Hid; rw [← hW9]; exact HX8.out.alloc _
  have HB9 : Hid (Below w8.heap.size w8 W9) := by unfold Hid; rw [← hW9]; exact (Below.refl _ _).alloc (Nat.le_refl _) _
  have HN9 : Hid (W9.heap[w8.heap.size]? = some (.cells #[.pointer va, .pointer vb] 40 (0, 0))) := by unfold Hid; rw [← hW9]; exact heap_alloc_new w8 _
  have x4 := HX9.out.c4
  have y4 := HX9.out.fz 4
  obtain ⟨W10, hW10⟩ : ∃ W10, W9.setCell ⟨X, 4, none⟩ (.slice (some ⟨w8.heap.size, 0, none⟩) 2 2) = W10 := ⟨_, rfl⟩
  have HX10 : Hid (LS R T w X W10 q6 (l + 1) tx v A (.slice (some ⟨w8.heap.size, 0, none⟩) 2 2)) := by unfold Hid; rw [← hW10]; exact HX9.out.put4 _
  obtain ⟨d, dd, r3, hdd, s3, hX11⟩ := HX10.out.back
  have HX11 := hid hX11
  have hL8 : X < w8.heap.size := HX8.out.lt
  have HE : Hid (XR R T q l w (.returned (.pointer (some ⟨X, 0, none⟩))) (W10.setCell ⟨R, 3, none⟩ (.int .i64 dd))) := by
    refine ⟨_, rfl, HX11.out.fr, ?_, fun t jj ht => ?_⟩
    · rw [HQQ.out]
      exact HX11.out.rm.map _
    · rw [HQQ.out] at ht
      obtain ⟨z, a6, h6, ht⟩ := Res.bind_ok ht
      obtain ⟨⟨⟨u, nm⟩, xa⟩, xb⟩ := z
      injection ht with ht _
      rw [HQ6.out] at h6
      have k6 := HT8.out _ _ (Res.cr_of h6)
      obtain ⟨a5, h5, _⟩ := Res.cr_ok h6
      rw [HQ5.out] at h5
      obtain ⟨a4, h4⟩ := Res.wn_ok h5
      rw [HQ4.out] at h4
      have k4 := HT7b.out _ _ (Res.cr_of h4)
      obtain ⟨a3, h3, _⟩ := Res.cr_ok h4
      rw [HQ3.out] at h3
      obtain ⟨a2, h2⟩ := Res.wn_ok h3
      rw [HQ2.out] at h2
      have k2 := HV3.out _ _ (Res.cr_of h2)
      obtain ⟨a1, h1, h1'⟩ := Res.cr_ok h2
      have kA := HA.out _ _ h1 (pName_at h1').1
      rw [← (pName_at h1').2] at kA
      have hRX : R < X := by have := HX8.out.hX; have := HX8.out.hR; omega
      have kk4 : XT w5.heap.size (W10.setCell ⟨R, 3, none⟩ (.int .i64 dd)) xa (.pointer va) := by
        refine (XT.put ?_ (by have := HL5.out; omega) 3 _)
        rw [← hW10]
        exact (k4.below HB9.out).put HL5.out 4 _
      have kk6 : XT w7.heap.size (W10.setCell ⟨R, 3, none⟩ (.int .i64 dd)) xb (.pointer vb) := by
        refine (XT.put ?_ (by have := HL7.out; omega) 3 _)
        rw [← hW10]
        exact (k6.below HB9.out).put HL7.out 4 _
      have hsz5 : w.heap.size ≤ w5.heap.size := HX5.out.fr.size
      have hsz7 : w.heap.size ≤ w7.heap.size := HX7.out.fr.size
      have hsz8 : w.heap.size ≤ w8.heap.size := HX8.out.fr.size
      rw [← ht]
      refine ⟨X, some ⟨w8.heap.size, 0, none⟩, 2, A, rfl, HX8.out.hX, ?_, fun _ => kA, ?_⟩
      · have := HX11.out.xb
        rw [k2, HTX.out] at this
        exact this
      · have hcell : ∀ i y, (#[Value.pointer va, Value.pointer vb] : Array Value)[i]? = some y → (W10.setCell ⟨R, 3, none⟩ (.int .i64 dd)).cell? ⟨w8.heap.size, i, none⟩ = some y := fun i y hy => by
          rw [World.cell?_of_block (a := ⟨w8.heap.size, i, none⟩) (heap_setCell_other _ _ _ _ (by show w8.heap.size ≠ R; omega)), ← hW10, World.cell?_of_block (a := ⟨w8.heap.size, i, none⟩) (heap_setCell_other _ _ _ _ (by show w8.heap.size ≠ X; omega))]
          simp [World.cell?, HN9.out]
          simpa using hy
        exact ⟨⟨_, _, rfl, hsz8, hcell 0 _ rfl, kk4.mono hsz5⟩, ⟨_, _, rfl, hsz8, hcell 1 _ rfl, kk6.mono hsz7⟩, trivial⟩
  clear hX11 HX11
  go_wp2_with fail
  go_ret
  exact HE.out

end Go.Proofs.YthemehdcakimgaiGreatDoor

namespace Go.Proofs.YthemehdcakimgaiGreatDoor
open Go.RowKit

set_option maxRecDepth 100000 in
set_option maxHeartbeats 2000000 in
theorem rexpr_need (R : Nat) (T : ByteArray) (f j l : Nat) (w : World) (hE : EXP R T f) (hS : SUM R T f) (hg : RgG w R T j l) (hk : (tok (by' T) j).kind = 6) (q : Res Tr) (hq : q = pExpr (by' T) (f + 1) j l) (hro : q ≠ .out) :
    Calls Tryz.prog 34 #[.pointer (some ⟨R, 0, none⟩)] w (XR R T q l w) := by
  have hmx : Tryz.prog.follows .mixedOrders = true := by kernel_rfl
  have htx := (tok_spl (by' T) j 6 (by decide) (by decide)).1 hk
  have hlt := hg.h.lt
  have c1 := hg.h.c1
  have c2 := hg.h.c2
  have c4 := hg.h.c4
  have t5 : ((bs (tok (by' T) j).text).toList == [108, 101, 116]) = false := by rw [bs_list, htx]; rfl
  have t6 : ((bs (tok (by' T) j).text).toList == [110, 101, 101, 100]) = true := by rw [bs_list, htx]; rfl
  have HTX : Hid (bs (tok (by' T) j).text = bs (opS 10)) := by unfold Hid; rw [htx]; rfl
  obtain ⟨q1, hq1⟩ : ∃ q1, q1 = pEnter (by' T) 6 j l := ⟨_, rfl⟩
  obtain ⟨q2, hq2⟩ : ∃ q2, q2 = q1.cr (fun a => pSum (by' T) f a (l + 1)) := ⟨_, rfl⟩
  obtain ⟨q3, hq3⟩ : ∃ q3, q3 = q2.wn (by' T) 15 := ⟨_, rfl⟩
  obtain ⟨q4, hq4⟩ : ∃ q4, q4 = q3.cr (fun a => pSum (by' T) f a (l + 1)) := ⟨_, rfl⟩
  obtain ⟨q5, hq5⟩ : ∃ q5, q5 = q4.wn (by' T) 13 := ⟨_, rfl⟩
  obtain ⟨q6, hq6⟩ : ∃ q6, q6 = q5.cr (fun a => pExpr (by' T) f a (l + 1)) := ⟨_, rfl⟩
  have hqq : q = q6.bind fun z a => .ok (.node 10 [] 0 0 [z.1.1.2, z.1.2, z.2]) a := by
    rw [hq, pExpr, if_neg (by omega), if_pos hk, hq6, hq5, hq4, hq3, hq2, hq1]
    cases pEnter (by' T) 6 j l with
    | out => rfl
    | bad e a => rfl
    | ok _ a1 =>
      simp only [Res.cr, Res.wn, Res.bind]
      cases pSum (by' T) f a1 (l + 1) with
      | out => rfl
      | bad e a => rfl
      | ok nm a2 =>
        dsimp only
        cases pTake (by' T) 15 a2 with
        | out => rfl
        | bad e a => rfl
        | ok _ a3 =>
          dsimp only
          cases pSum (by' T) f a3 (l + 1) with
          | out => rfl
          | bad e a => rfl
          | ok x a4 =>
            dsimp only
            cases pTake (by' T) 13 a4 with
            | out => rfl
            | bad e a => rfl
            | ok _ a5 =>
              dsimp only
              cases pExpr (by' T) f a5 (l + 1) with
              | out => rfl
              | bad e a => rfl
              | ok y a6 => rfl
  have n6 : q6 ≠ .out := Res.out_bind (by rw [← hqq]; exact hro)
  have n5 : q5 ≠ .out := Res.out_cr (by rw [← hq6]; exact n6)
  have n4 : q4 ≠ .out := Res.out_wn (by rw [← hq5]; exact n5)
  have n3 : q3 ≠ .out := Res.out_cr (by rw [← hq4]; exact n4)
  have n2 : q2 ≠ .out := Res.out_wn (by rw [← hq3]; exact n3)
  have HE2 := hid (fun (W : World) (h : RgW W R T q1 (l + 1)) => hS _ q1 (l + 1) W h (Res.cr_out (by rw [← hq2]; exact n2)))
  have HWA := hid (fun (W : World) (h : RgW W R T q2 (l + 1)) => rwant_any R (l + 1) 15 T ⟨#[61, 61]⟩ q2 W h (by decide) (by decide) rfl)
  have HE4 := hid (fun (W : World) (h : RgW W R T q3 (l + 1)) => hS _ q3 (l + 1) W h (Res.cr_out (by rw [← hq4]; exact n4)))
  have HWB := hid (fun (W : World) (h : RgW W R T q4 (l + 1)) => rwant_any R (l + 1) 13 T ⟨#[59]⟩ q4 W h (by decide) (by decide) rfl)
  have HE6 := hid (fun (W : World) (h : RgW W R T q5 (l + 1)) => hE _ q5 (l + 1) W h (Res.cr_out (by rw [← hq6]; exact n6)))
  have HQ2 := hid hq2
  have HQ3 := hid hq3
  have HQ4 := hid hq4
  have HQ5 := hid hq5
  have HQ6 := hid hq6
  have HQQ := hid hqq
  obtain ⟨W0, hW0⟩ : ∃ W0, W0 = (w.alloc (.cells #[.string (bs (tok (by' T) j).text), .string ⟨#[]⟩, .int .i64 0, .int .i64 ((tok (by' T) j).at' : Int), .slice none 0 0] 97)).drew := ⟨_, rfl⟩
  have hb0 : Below w.heap.size w W0 := by rw [hW0]; exact ((Below.refl w.heap.size w).alloc (Nat.le_refl _) _).drew
  have hg0 : RgG W0 R T j l := hg.keep (hb0.block _ hlt)
  have HX0 : Hid (LS R T w w.heap.size W0 (.ok () j : Res Unit) l (bs (tok (by' T) j).text) ⟨#[]⟩ ((tok (by' T) j).at' : Int) (.slice none 0 0)) := ⟨Fr.below hb0 (Nat.le_of_lt hlt), Or.inl hg0, by rw [hW0]; exact heap_alloc_new w _, Nat.le_refl _, hlt⟩
  have HDP := hid (rdeep_any R j l 6 T W0 hg0 hk)
  rw [← hq1] at HDP
  have e4 := hg0.h.c4
  have e2 := hg0.h.c2
  obtain ⟨X, hX⟩ : ∃ X, X = w.heap.size := ⟨_, rfl⟩
  rw [← hX] at HX0
  have HXX := hid hX
  generalize bs (tok (by' T) j).text = tx at *
  generalize hA : ((tok (by' T) j).at' : Int) = A at *
  clear hA hE hS hg hk hq hro htx hq1 hq2 hq3 hq4 hq5 hq6 hqq n6 n5 n4 n3 n2 hb0 hg0
  go_enter Tryz.func34, Tryz.ntmps34
  go_wp2_with fail
  go_still_tail 9, hmx
  go_wp2_with fail
  rw [← hW0, ← hX]
  clear hW0 hX
  refine HDP.out.mono ?_
  rintro e w1 ⟨b, rfl, hf1, hm1⟩
  have HX1 := hid (HX0.out.step hf1 hm1)
  clear hf1 hm1 e2 e4 c1 c2 c4
  go_wp2_with fail
  refine (HE2.out w1 HX1.out.rm).mono ?_
  rintro e w3 ⟨v0, rfl, hf3, hm3, ht3⟩
  have HX3 : Hid (LS R T w X w3 q2 (l + 1) tx ⟨#[]⟩ A (.slice none 0 0)) := by unfold Hid; rw [HQ2.out]; exact HX1.out.step hf3 hm3.cr
  have HT3 := hid ht3
  have HL1 := hid HX1.out.lt
  have hR1 : R < w1.heap.size := HX1.out.rm.lt
  clear hf3 hm3 ht3
  go_wp2_with fail
  refine (HWA.out w3 HX3.out.rm).mono ?_
  rintro e w5 ⟨rfl, hf5, hm5⟩
  have HX5 : Hid (LS R T w X w5 q3 (l + 1) tx ⟨#[]⟩ A (.slice none 0 0)) := by unfold Hid; rw [HQ3.out]; exact HX3.out.step hf5 hm5
  have HT5 : Hid (∀ t j, (q1.bind fun _ a => pSum (by' T) f a (l + 1)) = .ok t j → XT w1.heap.size w5 t (.pointer v0)) := fun t j h => (HT3.out t j h).fr hf5 hR1
  clear hf5 hm5 HT3
  go_wp2_with fail
  refine (HE4.out w5 HX5.out.rm).mono ?_
  rintro e w6 ⟨va, rfl, hf6, hm6, ht6⟩
  have HX6 : Hid (LS R T w X w6 q4 (l + 1) tx ⟨#[]⟩ A (.slice none 0 0)) := by unfold Hid; rw [HQ4.out]; exact HX5.out.step hf6 hm6.cr
  have HT6 := hid ht6
  have HL5 := hid HX5.out.lt
  have HT5b : Hid (∀ t j, (q1.bind fun _ a => pSum (by' T) f a (l + 1)) = .ok t j → XT w1.heap.size w6 t (.pointer v0)) := fun t j h => (HT5.out t j h).fr hf6 hR1
  clear hf6 hm6 ht6 HT5
  go_wp2_with fail
  refine (HWB.out w6 HX6.out.rm).mono ?_
  rintro e w7 ⟨rfl, hf7, hm7⟩
  have HX7 : Hid (LS R T w X w7 q5 (l + 1) tx ⟨#[]⟩ A (.slice none 0 0)) := by unfold Hid; rw [HQ5.out]; exact HX6.out.step hf7 hm7
  have hR5 : R < w5.heap.size := HX5.out.rm.lt
  have HT7 : Hid (∀ t j, (q3.bind fun _ a => pSum (by' T) f a (l + 1)) = .ok t j → XT w5.heap.size w7 t (.pointer va)) := fun t j h => (HT6.out t j h).fr hf7 hR5
  have HT7c : Hid (∀ t j, (q1.bind fun _ a => pSum (by' T) f a (l + 1)) = .ok t j → XT w1.heap.size w7 t (.pointer v0)) := fun t j h => (HT5b.out t j h).fr hf7 hR1
  clear hf7 hm7 HT6 HT5b
  go_wp2_with fail
  refine (HE6.out w7 HX7.out.rm).mono ?_
  rintro e w8 ⟨vb, rfl, hf8, hm8, ht8⟩
  have HX8 : Hid (LS R T w X w8 q6 (l + 1) tx ⟨#[]⟩ A (.slice none 0 0)) := by unfold Hid; rw [HQ6.out]; exact HX7.out.step hf8 hm8.cr
  have HT8 := hid ht8
  have HL7 := hid HX7.out.lt
  have HT7b : Hid (∀ t j, (q3.bind fun _ a => pSum (by' T) f a (l + 1)) = .ok t j → XT w5.heap.size w8 t (.pointer va)) := fun t j h => (HT7.out t j h).fr hf8 hR5
  have HT7d : Hid (∀ t j, (q1.bind fun _ a => pSum (by' T) f a (l + 1)) = .ok t j → XT w1.heap.size w8 t (.pointer v0)) := fun t j h => (HT7c.out t j h).fr hf8 hR1
  clear hf8 hm8 ht8 HT7 HT7c
  obtain ⟨W9, hW9⟩ : ∃ W9, w8.alloc (.cells #[.pointer v0, .pointer va, .pointer vb] 40) = W9 := ⟨_, rfl⟩
  have HX9 : Hid (LS R T w X W9 q6 (l + 1) tx ⟨#[]⟩ A (.slice none 0 0)) := by unfold Hid; rw [← hW9]; exact HX8.out.alloc _
  have HB9 : Hid (Below w8.heap.size w8 W9) := by unfold Hid; rw [← hW9]; exact (Below.refl _ _).alloc (Nat.le_refl _) _
  have HN9 : Hid (W9.heap[w8.heap.size]? = some (.cells #[.pointer v0, .pointer va, .pointer vb] 40 (0, 0))) := by unfold Hid; rw [← hW9]; exact heap_alloc_new w8 _
  have x4 := HX9.out.c4
  have y4 := HX9.out.fz 4
  obtain ⟨W10, hW10⟩ : ∃ W10, W9.setCell ⟨X, 4, none⟩ (.slice (some ⟨w8.heap.size, 0, none⟩) 3 3) = W10 := ⟨_, rfl⟩
  have HX10 : Hid (LS R T w X W10 q6 (l + 1) tx ⟨#[]⟩ A (.slice (some ⟨w8.heap.size, 0, none⟩) 3 3)) := by unfold Hid; rw [← hW10]; exact HX9.out.put4 _
  obtain ⟨d, dd, r3, hdd, s3, hX11⟩ := HX10.out.back
  have HX11 := hid hX11
  have hL8 : X < w8.heap.size := HX8.out.lt
  have HE : Hid (XR R T q l w (.returned (.pointer (some ⟨X, 0, none⟩))) (W10.setCell ⟨R, 3, none⟩ (.int .i64 dd))) := by
    refine ⟨_, rfl, HX11.out.fr, ?_, fun t jj ht => ?_⟩
    · rw [HQQ.out]
      exact HX11.out.rm.map _
    · rw [HQQ.out] at ht
      obtain ⟨z, a6, h6, ht⟩ := Res.bind_ok ht
      obtain ⟨⟨⟨u, x0⟩, xa⟩, xb⟩ := z
      injection ht with ht _
      rw [HQ6.out] at h6
      have k6 := HT8.out _ _ (Res.cr_of h6)
      obtain ⟨a5, h5, _⟩ := Res.cr_ok h6
      rw [HQ5.out] at h5
      obtain ⟨a4, h4⟩ := Res.wn_ok h5
      rw [HQ4.out] at h4
      have k4 := HT7b.out _ _ (Res.cr_of h4)
      obtain ⟨a3, h3, _⟩ := Res.cr_ok h4
      rw [HQ3.out] at h3
      obtain ⟨a2, h2⟩ := Res.wn_ok h3
      rw [HQ2.out] at h2
      have k2 := HT7d.out _ _ (Res.cr_of h2)
      have hRX : R < X := by have := HX8.out.hX; have := HX8.out.hR; omega
      have kk2 : XT w1.heap.size (W10.setCell ⟨R, 3, none⟩ (.int .i64 dd)) x0 (.pointer v0) := by
        refine (XT.put ?_ (by have := HL1.out; omega) 3 _)
        rw [← hW10]
        exact (k2.below HB9.out).put HL1.out 4 _
      have kk4 : XT w5.heap.size (W10.setCell ⟨R, 3, none⟩ (.int .i64 dd)) xa (.pointer va) := by
        refine (XT.put ?_ (by have := HL5.out; omega) 3 _)
        rw [← hW10]
        exact (k4.below HB9.out).put HL5.out 4 _
      have kk6 : XT w7.heap.size (W10.setCell ⟨R, 3, none⟩ (.int .i64 dd)) xb (.pointer vb) := by
        refine (XT.put ?_ (by have := HL7.out; omega) 3 _)
        rw [← hW10]
        exact (k6.below HB9.out).put HL7.out 4 _
      have hsz1 : w.heap.size ≤ w1.heap.size := HX1.out.fr.size
      have hsz5 : w.heap.size ≤ w5.heap.size := HX5.out.fr.size
      have hsz7 : w.heap.size ≤ w7.heap.size := HX7.out.fr.size
      have hsz8 : w.heap.size ≤ w8.heap.size := HX8.out.fr.size
      rw [← ht]
      refine ⟨X, some ⟨w8.heap.size, 0, none⟩, 3, A, rfl, HX8.out.hX, ?_, fun h => by omega, ?_⟩
      · have := HX11.out.xb
        rw [HTX.out] at this
        exact this
      · have hcell : ∀ i y, (#[Value.pointer v0, Value.pointer va, Value.pointer vb] : Array Value)[i]? = some y → (W10.setCell ⟨R, 3, none⟩ (.int .i64 dd)).cell? ⟨w8.heap.size, i, none⟩ = some y := fun i y hy => by
          rw [World.cell?_of_block (a := ⟨w8.heap.size, i, none⟩) (heap_setCell_other _ _ _ _ (by show w8.heap.size ≠ R; omega)), ← hW10, World.cell?_of_block (a := ⟨w8.heap.size, i, none⟩) (heap_setCell_other _ _ _ _ (by show w8.heap.size ≠ X; omega))]
          simp [World.cell?, HN9.out]
          simpa using hy
        exact ⟨⟨_, _, rfl, hsz8, hcell 0 _ rfl, kk2.mono hsz1⟩, ⟨_, _, rfl, hsz8, hcell 1 _ rfl, kk4.mono hsz5⟩, ⟨_, _, rfl, hsz8, hcell 2 _ rfl, kk6.mono hsz7⟩, trivial⟩
  clear hX11 HX11
  go_wp2_with fail
  go_ret
  exact HE.out

end Go.Proofs.YthemehdcakimgaiGreatDoor
