/- What package chain must answer; attestlaw3.done, of that. -/
import Derived.Test.YtgjkakfkefpgbafChnB
import Derived.Test.YtgjkakfkefpgbafPls
import Derived.Test.YtgjkakfkefpgbafDoms
import Derived.Test.YtgjkakfkefpgbafTres
namespace Go.Proofs.Ytgjkakfkefpgbaf
open Go.RowKit

/-- the digest behind so many numbers drawn -/
def drw (q n : Nat) : Nat → List Int → List Int
  | 0, D => D
  | k + 1, D => digl q n (4 :: drw q n k D)
/-- the numbers drawn -/
def drs (q n k : Nat) (D : List Int) : List Int := ls (fun i => zat (drw q n (i + 1) D) 0) k
/-- a digest -/
def Dig (D : List Int) : Prop := D.length = 4 ∧ Fits D
theorem dig_digl {q : Nat} (h3 : 3 ≤ q) (h4 : q ≤ 2147483647) (n : Nat) (l : List Int) : Dig (digl q n l) := ⟨digl_len _ _ _, digl_fits h3 h4 _ _⟩
theorem dig_drw {q : Nat} (h3 : 3 ≤ q) (h4 : q ≤ 2147483647) (n : Nat) {D : List Int} (h : Dig D) : ∀ k, Dig (drw q n k D)
  | 0 => h
  | _ + 1 => dig_digl h3 h4 _ _

theorem NumL.other {w w' : World} {a : Option Addr} {c s : Nat} {l : List Int} (h : NumL w a c l) (e : w.grownBy w' (some s)) (hs : ∀ (cs : Array Value) (f : Nat × Nat), w.heap[s]? ≠ some (.cells cs 3 f)) : NumL w' a c l :=
  h.blocks e.size (fun g cs f hg => gb_blk e (Array.getElem?_eq_some_iff.1 hg).1 (fun he => hs cs f (by rw [← he]; exact hg)))
theorem numL_of_owns {w : World} {base : Nat} {v : Value} {zs : List Int} (h : w.ownsRow base 3 1 v zs.length (zs.map (Value.int .i64))) : ∃ a cap, v = .slice a zs.length cap ∧ NumL w a cap zs := by
  obtain ⟨a, cap, rfl, hl⟩ := lst_of_owns h
  refine ⟨a, cap, rfl, hl, fun h0 => ?_⟩
  rcases h.2 with ⟨_, h3⟩ | ⟨g, cap', cur, e, hg, hb, _⟩
  · omega
  · injection e with e1
    exact ⟨g, 0, cur, _, e1, hb⟩
theorem pair_b {g h : Nat} {w w' : World} (e : Below w.heap.size w w') : Pair g h w w' := ⟨e.os, e.tape, e.output, e.size, fun k hk _ _ => e.block k hk⟩
theorem pair_1 {g h : Nat} {w w' : World} (e : w.grownBy w' (some g)) : Pair g h w w' := ⟨e.os, e.tape, e.output, e.size, fun _ hk h1 _ => gb_blk e hk h1⟩
theorem pair_2 {g h : Nat} {w w' : World} (e : w.grownBy w' (some h)) : Pair g h w w' := ⟨e.os, e.tape, e.output, e.size, fun _ hk _ h2 => gb_blk e hk h2⟩

theorem trio_c0 {W : World} {O : Nat} {a b c : Value} {t : TypeId} (h : W.heap[O]? = some (.cells #[a, b, c] t (0, 0))) : W.cell? ⟨O, 0, none⟩ = some a := by simp [World.cell?, h]
theorem trio_c1 {W : World} {O : Nat} {a b c : Value} {t : TypeId} (h : W.heap[O]? = some (.cells #[a, b, c] t (0, 0))) : W.cell? ⟨O, 1, none⟩ = some b := by simp [World.cell?, h]
theorem trio_c2 {W : World} {O : Nat} {a b c : Value} {t : TypeId} (h : W.heap[O]? = some (.cells #[a, b, c] t (0, 0))) : W.cell? ⟨O, 2, none⟩ = some c := by simp [World.cell?, h]
/-- append([]int{}, l...) -/
theorem wpList_copyN {ops : Array Oper} {rest : List Oper} {o : Oper} {act : Act} {Q : Exit → Act → World → Prop} (w1 : World) (n0 g : Nat) (hgs : w1.heap.size = g) (hgd : o.guard = none) (s x : Operand)
    (ho : o.op = .call { callee := .builtin .append, args := #[s, x], argTypes := #[23, 23] })
    (hs : act.eval s = .slice (some ⟨g, 0, none⟩) 0 0) (av : Option Addr) (cap : Nat) (zs : List Int) (hx : act.eval x = .slice av zs.length cap)
    (hlen : zs.length ≤ 17592186044416) (hn : n0 ≤ w1.heap.size) (hl : Lst n0 w1 av cap zs)
    (h : ∀ a2 c2 w2, NumL w2 a2 c2 zs → Below w1.heap.size w1 w2 → wpList Try.prog ops Q rest (act.put o.dst (.slice a2 zs.length c2)) w2) :
    wpList Try.prog ops Q (o :: rest) act (w1.alloc (.cells #[] 3)) := by
  subst hgs
  have hb0 : Below w1.heap.size w1 (w1.alloc (.cells #[] 3)) := (Below.refl _ _).alloc (Nat.le_refl _) _
  have hown : (w1.alloc (.cells #[] 3)).ownsRow w1.heap.size 3 1 (.slice (some ⟨w1.heap.size, 0, none⟩) 0 0) ([] : List Int).length (([] : List Int).map (Value.int .i64)) := World.ownsRow_made (size := 1) w1 #[] 0 (Nat.le_refl _) (by unfold maxLen; omega) (by simp)
  refine wpList_appendL (w1.alloc (.cells #[] 3)) w1.heap.size n0 hgd s x ho _ hs [] zs hown av cap hx (by simpa using hlen) (by simp) (hl.below (hb0.mono hn)) ?_
  intro v' w2 hown2 hb2
  rw [List.nil_append] at hown2
  obtain ⟨a2, c2, rfl, hnl⟩ := numL_of_owns hown2
  exact h a2 c2 w2 hnl (hb0.trans hb2)

end Go.Proofs.Ytgjkakfkefpgbaf
