/- A cell appended to a list of the call's own, of any length. -/
import Derived.Test.YthemehdcakimgakDoorRuE
import Derived.Test.YthemehdcakimgakDoorUnlike
import Derived.Test.YthemehdcakimgakDoorFld
namespace Go.Proofs.YthemehdcakimgakDoor
open Go.RowKit

/-- append(l, c): a cell more -/
theorem wpList_celB {ops : Array Oper} {rest : List Oper} {o : Oper} {act : Act} {Q : Exit → Act → World → Prop} (W : World) (hgd : o.guard = none) (s x : Operand)
    (ho : o.op = .call { callee := .builtin .append, args := #[s, x], argTypes := #[36, 36] }) (v : Value) (base : Nat) (l : List (Int × Int)) (z0 z1 : Int)
    (hown : CelR base W v l) (hs : act.eval s = v) (hx : act.eval x = .slice (some ⟨W.heap.size, 0, none⟩) 1 1) (hlen : l.length ≤ 8796093021952) (hbase : base ≤ W.heap.size)
    (h : ∀ v' w2, CelR base w2 v' (l ++ [(z0, z1)]) → Below base W w2 → W.grownBy w2 v.ownBlock → wpList Tryd.prog ops Q rest (act.put o.dst v') w2) :
    wpList Tryd.prog ops Q (o :: rest) act (W.alloc (.cells #[.int .i64 z0, .int .i64 z1] 39)) := by
  obtain ⟨cs, hcs⟩ : ∃ cs, cs = #[Value.int .i64 z0, .int .i64 z1] := ⟨_, rfl⟩
  rw [← hcs]
  have hbw : Below W.heap.size W (W.alloc (.cells cs 39)) := (Below.refl _ _).alloc (Nat.le_refl _) _
  obtain ⟨i0, hi, hz0, hz1, hz2⟩ := info_parts (show (Tryd.prog.info? 39).map (fun i => (i.zero, i.size, i.bytes)) = some (some (.agg #[.int .i64 0, .int .i64 0]), 2, 16) by kernel_rfl)
  have h1 : (W.alloc (.cells cs 39)).ownsRow base 39 2 v l.length (celv l) := World.ownsRow.alloc hown _
  refine wpList_append_own _ hgd s x 36 ho base 39 i0 _ 2 16 Tryd.underlying36 hi hz0 hz1 hz2 rfl (by decide) _ _ _ hs h1 ⟨W.heap.size, 0, none⟩ 1 1 cs.toList hx (by rw [hcs]; rfl) ?_ ?_ (by unfold maxLen; omega) (by omega) (by simp; omega) ?_
  · intro j t hj
    have hc : (W.alloc (.cells cs 39)).heap[W.heap.size]? = some (.cells cs 39 (0, 0)) := heap_alloc_new W _
    have hadd : (⟨W.heap.size, 0, none⟩ : Addr).add j = ⟨W.heap.size, j, none⟩ := by unfold Addr.add; split <;> simp_all
    rw [hadd]
    simp only [World.cell?, hc]
    simpa using hj
  · intro t ht
    rw [hcs] at ht
    have ht2 : t = .int .i64 z0 ∨ t = .int .i64 z1 := by simpa using ht
    rcases ht2 with rfl | rfl <;> rfl
  · intro v' w2 hown2 hgrow _
    have hB0 : Below base (W.alloc (.cells cs 39)) w2 := (Below.refl base _).grown hgrow (by simp; omega) (fun k hk => (h1.lt k hk).1)
    refine h v' w2 ?_ ((hbw.mono hbase).trans hB0) ⟨hgrow.os, hgrow.tape, hgrow.output, by have := hgrow.size; simp at this; omega, fun k hk hne => (hgrow.block k (by simp; omega) hne).trans (hbw.block k hk)⟩
    unfold CelR
    rw [celv_app, List.length_append]
    rw [hcs] at hown2
    simpa [celv] using hown2
/-- cells of the call's own stay, where nothing below turns -/
theorem CelR.belowB {base n : Nat} {w w' : World} {v : Value} {l : List (Int × Int)} (h : CelR base w v l) (hb : Below n w w') (hn : w.heap.size ≤ n) : CelR base w' v l := by
  have hs := hb.size
  refine World.ownsRow.kept (row := none) h ⟨hb.os, hb.tape, hb.output, hs, fun k hk _ => hb.block k (by omega)⟩ (by cases v.ownBlock <;> simp)

/-- the numbers of pairs, as cells -/
def nbc (p : Nat) (y : Int) (L : List (Int × Int)) : List (Int × Int) := L.map fun c => (nb p y c, 0)
theorem nbc_len (p : Nat) (y : Int) (L : List (Int × Int)) : (nbc p y L).length = L.length := by simp [nbc]
theorem nbc_perm {p : Nat} {y : Int} {L M : List (Int × Int)} : (nbc p y L).Perm (nbc p y M) ↔ (L.map (nb p y)).Perm (M.map (nb p y)) := by
  have e : ∀ N : List (Int × Int), nbc p y N = (N.map (nb p y)).map fun z => (z, 0) := fun N => by simp [nbc]
  constructor
  · intro h
    have := h.map Prod.fst
    rw [e, e] at this
    simpa [Function.comp_def] using this
  · intro h
    rw [e, e]
    exact h.map _
theorem prd_same {p : Nat} (h3 : 3 ≤ p) {x y : Int} {L M : List (Int × Int)} (h : (nbc p y L).Perm (nbc p y M)) : prd p x y L L.length = prd p x y M M.length := by
  rw [prd_plv h3, prd_plv h3, Pol.plv_perm (nbc_perm.1 h)]
theorem prd_tell {p : Nat} (hp : Num.Prime p) (h3 : 3 ≤ p) {y : Int} {L M : List (Int × Int)} {xs : List Int} (hn : L.length = M.length) (hl : L.length ≤ xs.length) (hu : Unl p (zat xs) xs.length)
    (hs : ∀ i, i < xs.length → prd p (zat xs i) y L L.length = prd p (zat xs i) y M M.length) : (nbc p y L).Perm (nbc p y M) := by
  rw [nbc_perm]
  have hb : ∀ (N : List (Int × Int)) x, x ∈ N.map (nb p y) → 0 ≤ x ∧ x < p := fun N x hx => by
    obtain ⟨c, _, rfl⟩ := List.mem_map.1 hx
    exact nb_bd h3 y c
  refine Pol.plv_tell hp (hb L) (hb M) (by simpa using hn) (zat xs) (fun i j h1 h2 hd => ?_) (fun i hi => ?_)
  · rw [List.length_map] at h2
    refine hu i j h1 (by omega) ((Pol.emod_eq_iff (by omega)).2 ?_)
    have := Int.dvd_neg.2 hd
    rwa [Int.neg_sub] at this
  · rw [List.length_map] at hi
    have := hs i (by omega)
    rw [prd_plv h3, prd_plv h3] at this
    exact (Pol.emod_eq_iff (by omega)).1 this

end Go.Proofs.YthemehdcakimgakDoor
