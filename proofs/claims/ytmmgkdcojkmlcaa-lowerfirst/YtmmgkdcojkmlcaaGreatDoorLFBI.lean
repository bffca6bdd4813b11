/- attestref6.Run. attestlaw6.copied; what both runs give. Package lower: With; a copy of one's own. -/
import Derived.Test.YtmmgkdcojkmlcaaGreatDoorLFBH
import Derived.Test.YtmmgkdcojkmlcaaGreatDoorLFAB
import Derived.Test.YtmmgkdcojkmlcaaGreatDoorLFAO
namespace Go.Proofs.YtmmgkdcojkmlcaaGreatDoor
open Go.RowKit Go.Maps

end Go.Proofs.YtmmgkdcojkmlcaaGreatDoor

namespace Go.Proofs.YtmmgkdcojkmlcaaGreatDoor
open Go.RowKit Go.Maps

theorem row2_of {W : World} {g : Nat} {t : TypeId} {a b : Value} (h : W.heap[g]? = some (.cells #[a, b] t (0, 0))) : W.rowIs g t 2 (fun i => #[a, b].getD i .nilFunc) :=
  ⟨_, h, rfl, fun i hi => by
    have : i = 0 ∨ i = 1 := by omega
    rcases this with rfl | rfl <;> rfl⟩
theorem row2_arr {W : World} {g : Nat} {t : TypeId} {f : Nat → Value} (h : W.rowIs g t 2 f) : W.heap[g]? = some (.cells #[f 0, f 1] t (0, 0)) := by
  obtain ⟨c, hb, hs, hc⟩ := h
  rw [hb]
  congr 2
  apply Array.ext
  · simpa using hs
  · intro i h1 h2
    have h4 : i < 2 := by simpa using h2
    have := hc i h4
    rw [Array.getElem?_eq_getElem h1] at this
    injection this with this
    rw [this]
    have : i = 0 ∨ i = 1 := by omega
    rcases this with rfl | rfl <;> rfl
theorem put2_heap {W : World} {g : Nat} {t : TypeId} {z0 z1 : Value} (h : W.heap[g]? = some (.cells #[z0, z1] t (0, 0))) (a b : Value) : ((W.setCell ⟨g, 0, none⟩ a).setCell ⟨g, 1, none⟩ b).heap[g]? = some (.cells #[a, b] t (0, 0)) := by
  have := row2_arr (((row2_of h).set 0 a).set 1 b)
  simpa using this
theorem put2_below {N : Nat} {w W : World} {g : Nat} (e : Below N w W) (hg : N ≤ g) (a b : Value) : Below N w ((W.setCell ⟨g, 0, none⟩ a).setCell ⟨g, 1, none⟩ b) :=
  ⟨e.os, e.tape, e.output, by simpa [World.setCell] using e.size, fun k hk => by
    rw [Below.heap_setCell _ _ _ _ (by show k ≠ g; omega), Below.heap_setCell _ _ _ _ (by show k ≠ g; omega)]
    exact e.block k hk⟩
end Go.Proofs.YtmmgkdcojkmlcaaGreatDoor

namespace Go.Proofs.YtmmgkdcojkmlcaaGreatDoor
open Go.RowKit Go.Maps

theorem own_base {w : World} {b b' : Nat} {e : TypeId} {k : Nat} {v : Value} {n : Nat} {xs : List Value} (h : w.ownsRow b e k v n xs) (hb : b' ≤ b) : w.ownsRow b' e k v n xs := by
  obtain ⟨h1, h2⟩ := h
  refine ⟨h1, ?_⟩
  rcases h2 with h2 | ⟨g, cap, cur, a1, a2, a3⟩
  · exact Or.inl h2
  · exact Or.inr ⟨g, cap, cur, a1, Nat.le_trans hb a2, a3⟩
theorem own_slice {w : World} {b : Nat} {e : TypeId} {k : Nat} {v : Value} {n : Nat} {xs : List Value} (h : w.ownsRow b e k v n xs) : ∃ a c, v = .slice a n c ∧ (0 < n → ∃ g, a = some ⟨g, 0, none⟩ ∧ b ≤ g) := by
  rcases h.2 with ⟨h1, h2⟩ | ⟨g, cap, cur, a1, a2, a3⟩
  · exact ⟨none, 0, by rw [h1, h2], fun h => by omega⟩
  · exact ⟨some ⟨g, 0, none⟩, cap, a1, fun _ => ⟨g, rfl, a2⟩⟩
theorem own_below {w w' : World} {b : Nat} {e : TypeId} {k : Nat} {v : Value} {n : Nat} {xs : List Value} (h : w.ownsRow b e k v n xs) (hb : Below w.heap.size w w') : w'.ownsRow b e k v n xs :=
  h.kept (row := none) ⟨hb.os, hb.tape, hb.output, hb.size, fun k hk _ => hb.block k hk⟩ (by cases hv : v.ownBlock <;> simp)
theorem wpList_copyO {ops : Array Oper} {rest : List Oper} {o : Oper} {act : Act} {Q : Exit → Act → World → Prop} (w1 : World) (g : Nat) (hgs : w1.heap.size = g) (hgd : o.guard = none) (s x : Operand)
    (ho : o.op = .call { callee := .builtin .append, args := #[s, x], argTypes := #[22, 22] })
    (hs : act.eval s = .slice (some ⟨g, 0, none⟩) 0 0) (av : Option Addr) (cap : Nat) (L : List InsZ) (hx : act.eval x = .slice av L.length cap)
    (hlen : L.length ≤ 4398046511104) (hl : LstI w1.heap.size w1 av cap L)
    (h : ∀ v2 w2, w2.ownsRow w1.heap.size 35 4 v2 L.length (insv L) → Below w1.heap.size w1 w2 → w1.heap.size < w2.heap.size → wpList Tryz.prog ops Q rest (act.put o.dst v2) w2) :
    wpList Tryz.prog ops Q (o :: rest) act (w1.alloc (.cells #[] 35)) := by
  subst hgs
  obtain ⟨i0, hi, hz0, hz1, hz2⟩ := info_parts (show (Tryz.prog.info? 35).map (fun i => (i.zero, i.size, i.bytes)) = some (some (.agg #[.int .i64 0, .int .i64 0, .int .i64 0, .int .i64 0]), 4, 32) by kernel_rfl)
  have hown : (w1.alloc (.cells #[] 35)).ownsRow w1.heap.size 35 4 (.slice (some ⟨w1.heap.size, 0, none⟩) 0 0) 0 [] := World.ownsRow_made (size := 4) w1 #[] 0 (Nat.le_refl _) (by unfold maxLen; omega) (by simp)
  have hb0 : Below w1.heap.size w1 (w1.alloc (.cells #[] 35)) := (Below.refl _ _).alloc (Nat.le_refl _) _
  cases av with
  | none =>
    have hc := hl.nil rfl
    have hr := hl.room
    obtain rfl : cap = 0 := hc
    obtain rfl : L = [] := List.length_eq_zero_iff.1 (by omega)
    refine wpList_append_own_none hgd s x 22 ho w1.heap.size 35 i0 4 Tryz.underlying22 hi _ _ _ hs hown hx ?_
    exact h _ _ hown hb0 (by simp)
  | some ad =>
    refine wpList_append_own _ hgd s x 22 ho w1.heap.size 35 i0 _ 4 32 Tryz.underlying22 hi hz0 hz1 hz2 rfl (by decide) _ _ _ hs hown ad L.length cap (insv L) hx (by rw [insv_len]) ?_ (fun u hu => insv_one L u hu) (by unfold maxLen; omega) (by omega) (by simp) ?_
    · intro j u hu
      obtain ⟨b, off, rfl, h2, h5⟩ := hl.each j u hu
      have hadd : (⟨b, off, none⟩ : Addr).add j = ⟨b, off + j, none⟩ := by unfold Addr.add; split <;> simp_all
      rw [hadd, World.cell?_alloc_lt _ _ ⟨b, off + j, none⟩ h2]
      exact h5
    · intro v' w2 hown2 hgrow _
      rw [Nat.zero_add, List.nil_append] at hown2
      have hb2 : Below w1.heap.size w1 w2 := hb0.grown hgrow (by simp) (fun k hk => (hown.lt k hk).1)
      have hg := hgrow.size
      exact h v' w2 hown2 hb2 (by simp at hg; omega)

set_option maxRecDepth 100000 in
set_option maxHeartbeats 1000000 in
theorem cloneI_own (a : Option Addr) (cap : Nat) (L : List InsZ) (w : World) (hlen : L.length ≤ 4398046511104) (hl : LstI w.heap.size w a cap L) :
    Calls Tryz.prog 17 #[.slice a L.length cap] w fun e w' => ∃ v, e = .returned v ∧ w'.ownsRow w.heap.size 35 4 v L.length (insv L) ∧ Below w.heap.size w w' := by
  have q22 : ∀ (w : World) (a : Option Addr) (n c n' c' : Nat), (binOp .eql 22 (.slice a n c) (.slice none n' c')).run Tryz.prog w = .ok (.bool a.isNone) w := fun w a n c n' c' => Lib.run_eql_slice_nil w _ _ a n c n' c' Tryz.underlying22
  cases a with
  | none =>
    have hc := hl.nil rfl
    have hr := hl.room
    obtain rfl : cap = 0 := hc
    obtain rfl : L = [] := List.length_eq_zero_iff.1 (by omega)
    clear hl hlen hr
    go_enter Tryz.func17, Tryz.ntmps17
    go_wp2_with fail
    go_ret
    exact ⟨_, rfl, ⟨rfl, Or.inl ⟨rfl, rfl⟩⟩, Below.refl _ _⟩
  | some ad =>
    have HL := hid hl
    clear hl
    go_enter Tryz.func17, Tryz.ntmps17
    go_wp2_with (at_builtin; refine wpList_copyO w w.heap.size rfl rfl _ _ rfl rfl (some ad) cap L rfl hlen HL.out ?_)
    intro v' w2 hown2 hb2 _
    have HE : Hid (w2.ownsRow w.heap.size 35 4 v' L.length (insv L) ∧ Below w.heap.size w w2) := ⟨hown2, hb2⟩
    clear hown2 hb2 HL
    go_wp2_with fail
    go_ret
    exact ⟨_, rfl, HE.out⟩

set_option maxRecDepth 100000 in
set_option maxHeartbeats 2000000 in
theorem mcopied_own (size : Int) (aL : Option Addr) (cL : Nat) (L : List InsZ) (w : World) (hn : L.length ≤ 4398046511104) (hl : LstI w.heap.size w aL cL L) :
    Calls Tryz.prog 5 #[.agg #[.int .i64 size, .slice aL L.length cL]] w fun e w' => ∃ v, e = .returned (.agg #[.int .i64 size, v]) ∧ w'.ownsRow w.heap.size 35 4 v L.length (insv L) ∧ Below w.heap.size w w' := by
  obtain ⟨V, hV⟩ : ∃ V, V = w.alloc (.cells #[.int .i64 size, .slice aL L.length cL] 24) := ⟨_, rfl⟩
  obtain ⟨W0, hW0⟩ : ∃ W0, W0 = V.alloc (.cells #[.int .i64 0, .slice none 0 0] 24) := ⟨_, rfl⟩
  have b1 : Below w.heap.size w V := by rw [hV]; exact (Below.refl _ _).alloc (Nat.le_refl _) _
  have hs : V.heap.size = w.heap.size + 1 := by rw [hV]; simp
  have b2 : Below V.heap.size V W0 := by rw [hW0]; exact (Below.refl _ _).alloc (Nat.le_refl _) _
  have hsz : W0.heap.size = w.heap.size + 2 := by rw [hW0]; simp; omega
  have HB0 := hid (b1.trans (b2.mono b1.size))
  have hr1 : W0.heap[w.heap.size]? = some (.cells #[.int .i64 size, .slice aL L.length cL] 24 (0, 0)) := (b2.block _ (by omega)).trans (by rw [hV]; exact heap_alloc_new w _)
  have hr2 : W0.heap[w.heap.size + 1]? = some (.cells #[.int .i64 0, .slice none 0 0] 24 (0, 0)) := by rw [hW0, ← hs]; exact heap_alloc_new V _
  have HR1 := hid hr1
  have HR2 := hid hr2
  have HSZ := hid hsz
  have HL0 : Hid (LstI W0.heap.size W0 aL cL L) := (hl.below HB0.out).mono HB0.out.size
  have HN := hid hn
  have x1 : ∀ o, (W0.alloc o).cell? ⟨w.heap.size, 1, none⟩ = some (.slice aL L.length cL) := fun o => (((Below.refl W0.heap.size W0).alloc (Nat.le_refl _) o).cell (p := ⟨w.heap.size, 1, none⟩) (by show w.heap.size < W0.heap.size; omega)).trans (by simp [World.cell?, hr1])
  rw [hV] at hW0
  clear b1 hs b2 hr1 hr2 hV hl hn hsz
  replace hW0 := hW0.symm
  have hsw : W0.heap.size = w.heap.size + 1 + 1 := HSZ.out
  go_enter Tryz.func5, Tryz.ntmps5
  go_wp2_with (at_builtin; refine wpList_copyO W0 _ HSZ.out rfl _ _ rfl rfl aL cL L rfl HN.out HL0.out ?_; intro v2 w2 hl2 hb2 hlt2; obtain ⟨a2, c2, rfl, hge⟩ := own_slice hl2; clear hge; clear x1 hsw; have HL2 := hid hl2; have HB2 := hid hb2; have HQ1 := hid ((hb2.block w.heap.size (by have := HSZ.out; omega)).trans HR1.out); have HQ2 := hid ((hb2.block (w.heap.size + 1) (by have := HSZ.out; omega)).trans HR2.out); have y0 : w2.cell? ⟨w.heap.size, 0, none⟩ = some (.int .i64 size) := (by simp [World.cell?, HQ1.out]); have z0 : w2.cell? ⟨w.heap.size + 1, 0, none⟩ = some (.int .i64 0) := (by simp [World.cell?, HQ2.out]); have z1 : w2.cell? ⟨w.heap.size + 1, 1, none⟩ = some (.slice none 0 0) := (by simp [World.cell?, HQ2.out]); have df := (row2_of HQ2.out).frozen; clear hl2 hb2)
  have HP2 := hid (put2_heap HQ2.out (.int .i64 size) (.slice a2 L.length c2))
  refine bodyPost_ret (results_cell_row rfl _ _ (w.heap.size + 1) 24 #[.int .i64 size, .slice a2 L.length c2] (0, 0) _ rfl HP2.out Tryz.underlying24 rfl (by kernel_rfl)) rfl ?_
  have hb := HB0.out.trans (HB2.out.mono HB0.out.size)
  refine ⟨_, rfl, ?_, put2_below hb (Nat.le_succ _) _ _⟩
  have hne : (Value.slice a2 L.length c2).ownBlock = none ∨ (Value.slice a2 L.length c2).ownBlock ≠ some (w.heap.size + 1) := own_ne HL2.out HQ2.out (by decide)
  exact own_base ((HL2.out.kept (gb_one w2 (w.heap.size + 1) 0 _) hne).kept (gb_one _ (w.heap.size + 1) 1 _) hne) HB0.out.size

end Go.Proofs.YtmmgkdcojkmlcaaGreatDoor
