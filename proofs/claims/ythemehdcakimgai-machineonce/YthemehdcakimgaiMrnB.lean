/- attestref6.Run. -/
import Derived.Test.YthemehdcakimgaiBiAP
import Derived.Test.YthemehdcakimgaiMahX
import Derived.Test.YthemehdcakimgaiHeldS
namespace Go.Proofs.Ythemehdcakimgai
open Go.RowKit Go.Maps

/-- what the document's Run gives -/
def RfR (p : Nat) (size : Int) (L : List InsZ) (limit : Int) (w : World) (e : Ending) (w' : World) : Prop := Below w.heap.size w w' ∧
  if fz6 (p : Int) size L.length limit ≠ 0 then e = .returned (.tuple #[.agg #[.int .i64 0, .int .i64 0, .slice none 0 0], .int .i64 (fz6 (p : Int) size L.length limit)])
  else match mwalk p size L limit.toNat with
    | .bad z => e = .returned (.tuple #[.agg #[.int .i64 0, .int .i64 0, .slice none 0 0], .int .i64 z])
    | .good l cs => ∃ v l', e = .returned (.tuple #[.agg #[.int .i64 (outv l), .int .i64 ((l.length - 1 : Nat) : Int), v], .int .i64 0]) ∧ CelR w.heap.size w' v l' ∧ AscC cs l'

theorem mgo_cells (p : Nat) (L : List InsZ) (limit : Nat) (hp : 3 ≤ p) : ∀ (f : Nat) (k : Nat) (n : Rg) (cs1 : List (Int × Int)) (done l : List (List Int)) (cs : List (Int × Int)), mgo p L limit f (freshM cs1 n) done = .good l cs → SOk p k 0 (freshM cs1 n) → RgB p n → cs.length ≤ k + 2 * f
  | 0, _, _, _, _, _, _, h, _, _ => by simp [mgo] at h
  | f + 1, k, n, cs1, done, l, cs, h, hs, hr => by
    rw [mgo] at h
    split at h
    · cases h
    · split at h
      · cases h
      · split at h
        · cases h
        · have hso := step_ok hp hs hr (insat L (freshM cs1 n).pc.toNat).op (insat L (freshM cs1 n).pc.toNat).a (insat L (freshM cs1 n).pc.toNat).b (insat L (freshM cs1 n).pc.toNat).c
          split at h
          · injection h with h1 h2
            rw [← h2]
            have := hso.1.2.1
            omega
          · have := mgo_cells p L limit hp f (k + 2) _ _ _ l cs h ⟨hso.1.1, hso.1.2.1, fun _ => Nat.le_refl _⟩ hso.2
            omega
theorem mwalk_cells {p : Nat} {size : Int} {L : List InsZ} {limit : Nat} {l : List (List Int)} {cs : List (Int × Int)} (hp : 3 ≤ p) (h : mwalk p size L limit = .good l cs) : cs.length ≤ 1 + 2 * (limit + 1) := by
  refine mgo_cells p L limit hp _ 1 _ _ _ l cs h ⟨fun j hj => ?_, Nat.le_refl _, fun _ => Nat.le_refl _⟩ ⟨⟨Int.le_refl _, by show (0 : Int) < p; omega⟩, ⟨by show (0 : Int) ≤ 1; omega, by show (1 : Int) < p; omega⟩, emod_bounds _ p hp, ⟨Int.le_refl _, by show (0 : Int) < p; omega⟩⟩
  have : j = 0 := by simpa [freshM] using hj
  subst this
  show 0 ≤ (0 : Int) ∧ (0 : Int) < p
  omega
theorem cnt_lt {P Q : Int × Int → Bool} : ∀ (cs : List (Int × Int)), (∀ c, P c = true → Q c = true) → (∃ c, c ∈ cs ∧ Q c = true ∧ P c = false) → cs.countP P < cs.countP Q
  | [], _, h => by obtain ⟨c, hc, _⟩ := h; cases hc
  | x :: r, hPQ, h => by
    have hle : r.countP P ≤ r.countP Q := List.countP_mono_left (fun c _ => hPQ c)
    rw [List.countP_cons, List.countP_cons]
    obtain ⟨c, hc, h1, h2⟩ := h
    rcases List.mem_cons.1 hc with rfl | hc
    · rw [h1, h2]
      simp
      omega
    · have := cnt_lt r hPQ ⟨c, hc, h1, h2⟩
      cases hP : P x with
      | true => rw [hPQ x hP]; simp; omega
      | false => simp; omega
theorem oper_append {o : Oper} {a : Act} {w w2 : World} {K : Act → World → Prop} {Q : Exit → Act → World → Prop} (s x : Operand) (tS tX : TypeId)
    (ho : o.op = .call { callee := .builtin .append, args := #[s, x], argTypes := #[tS, tX] }) (v u r : Value) (hs : a.eval s = v) (hx : a.eval x = u) (hrun : (Builtin.append_ #[tS, tX] o.type #[v, u]).run Try.prog w = .ok r w2)
    (h : K (a.put o.dst r) w2) : Oper.wp Try.prog o a w K Q := by
  unfold Oper.wp
  simp [execOp, ho, resolve, invoke, builtin, hs, hx, hrun, Result.andThen]
  exact h
/-- what stands in Run's loop -/
structure RnI (p RB : Nat) (cs : List (Int × Int)) (o : Int) (k : Nat) (low : Int) (pre : List (Int × Int)) (v : Value) (w1 wr : World) : Prop where
  pr : Pre6 cs low pre
  lt : low < (p : Int)
  r : wr.heap[RB]? = some (.cells #[.int .i64 o, .int .i64 (k : Int), v] 30 (0, 0))
  own : CelR (RB + 1) wr v pre
  bel : Below RB w1 wr
  sz : RB + 1 ≤ wr.heap.size
  len : pre.length ≤ cs.countP (fun c => decide (c.1 ≤ low))

end Go.Proofs.Ythemehdcakimgai
