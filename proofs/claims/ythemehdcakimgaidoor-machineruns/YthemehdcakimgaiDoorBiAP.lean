/- attestlaw6: rans, plain. attestlaw6: copied, alike. Runs, plainly: what is told is told for good. attestref6.Run, plainly: the least cell above a number, again and again. -/
import Derived.Test.YthemehdcakimgaiDoorBiAO
import Derived.Test.YthemehdcakimgaiDoorFld
import Derived.Test.YthemehdcakimgaiDoorBiAF
import Derived.Laws.AppendOwnNone
namespace Go.Proofs.YthemehdcakimgaiDoor
open Go.RowKit Go.Maps

theorem celv_int : ∀ (l : List (Int × Int)) (m : Nat), m < (celv l).length → ∃ x, (celv l)[m]? = some (.int .i64 x) := fun l m hm => by
  rw [celv_len] at hm
  obtain ⟨h1, h2⟩ := celv_at l (m / 2) (by omega)
  have : m = m / 2 * 2 ∨ m = m / 2 * 2 + 1 := by omega
  rcases this with e | e
  · rw [e]; exact ⟨_, h1⟩
  · rw [e]; exact ⟨_, h2⟩
theorem CelR.cellsM {base : Nat} {w : World} {v : Value} {l : List (Int × Int)} (h : CelR base w v l) (h0 : 0 < l.length) : ∃ g cap, v = .slice (some ⟨g, 0, none⟩) l.length cap ∧ ∀ m x, (celv l)[m]? = some (.int .i64 x) → w.cell? ⟨g, m, none⟩ = some (.int .i64 x) := by
  have h' := h
  rcases h.2 with ⟨_, hn⟩ | ⟨g, cap, cur, rfl, hb, hg, hn, hm, hs, ht⟩
  · omega
  · refine ⟨g, cap, rfl, fun m x hx => ?_⟩
    have := World.ownsRow.cells h' (g := g) rfl m _ hx
    have hadd : (⟨g, 0, none⟩ : Addr).add m = ⟨g, 0 + m, none⟩ := by unfold Addr.add; split <;> simp_all
    rw [hadd, Nat.zero_add] at this
    exact this
theorem CelR.belowM {base : Nat} {w w' : World} {v : Value} {l : List (Int × Int)} (h : CelR base w v l) (e : Below w.heap.size w w') : CelR base w' v l := by
  refine ⟨h.1, ?_⟩
  rcases h.2 with hn | ⟨g, cap, cur, h1, hb, hg, rest⟩
  · exact .inl hn
  · exact .inr ⟨g, cap, cur, h1, hb, (e.block _ (Array.getElem?_eq_some_iff.1 hg).1).trans hg, rest⟩
theorem neq_cell (y0 y1 : Int) (w : World) : (binOp BinOp.neq 67 (.agg #[.int .i64 y0, .int .i64 y1]) (.agg #[.int .i64 y0, .int .i64 y1])).run Tryd.prog w = .ok (.bool false) w := by
  simp [go_sem]

set_option maxRecDepth 100000 in
set_option maxHeartbeats 2000000 in
theorem rans_same (o s : Int) (b1 b2 : Nat) (v1 v2 : Value) (l : List (Int × Int)) (w : World) (h1 : CelR b1 w v1 l) (h2 : CelR b2 w v2 l) :
    Calls Tryd.prog 12 #[.agg #[.int .i64 o, .int .i64 s, v1], .agg #[.int .i64 o, .int .i64 s, v2]] w fun e w' => e = .returned (.bool true) ∧ Below w.heap.size w w' := by
  obtain ⟨a1, d1, rfl⟩ := h1.form
  obtain ⟨a2, d2, rfl⟩ := h2.form
  have HS1 : Hid (∀ m x, (celv l)[m]? = some (.int .i64 x) → ∃ g, a1 = some ⟨g, 0, none⟩ ∧ w.cell? ⟨g, m, none⟩ = some (.int .i64 x)) := fun m y hm => by
    have h0 : 0 < l.length := by
      cases l with
      | nil => simp [celv] at hm
      | cons a b => simp
    obtain ⟨g, cap, e1, e2⟩ := h1.cellsM h0
    injection e1 with e1 _ _
    exact ⟨g, e1, e2 m y hm⟩
  have HS2 : Hid (∀ m x, (celv l)[m]? = some (.int .i64 x) → ∃ g, a2 = some ⟨g, 0, none⟩ ∧ w.cell? ⟨g, m, none⟩ = some (.int .i64 x)) := fun m y hm => by
    have h0 : 0 < l.length := by
      cases l with
      | nil => simp [celv] at hm
      | cons a b => simp
    obtain ⟨g, cap, e1, e2⟩ := h2.cellsM h0
    injection e1 with e1 _ _
    exact ⟨g, e1, e2 m y hm⟩
  obtain ⟨n, hn⟩ : ∃ n, n = l.length := ⟨_, rfl⟩
  have HLM : Hid (n ≤ maxLen ∧ (celv l).length = n * 2) := by
    refine ⟨?_, by rw [hn]; exact celv_len l⟩
    rcases h1.2 with ⟨_, h0⟩ | ⟨g, cap, cur, _, _, _, hn', hm, _⟩
    · rw [hn, h0]; exact Nat.zero_le _
    · rw [hn]; omega
  rw [← hn]
  clear h1 h2 hn
  obtain ⟨V, hV⟩ : ∃ V, V = w.alloc (.cells #[.int .i64 o, .int .i64 s, .slice a1 n d1] 31) := ⟨_, rfl⟩
  obtain ⟨W0, hW0⟩ : ∃ W0, W0 = V.alloc (.cells #[.int .i64 o, .int .i64 s, .slice a2 n d2] 31) := ⟨_, rfl⟩
  have b1 : Below w.heap.size w V := by rw [hV]; exact (Below.refl _ _).alloc (Nat.le_refl _) _
  have hs : V.heap.size = w.heap.size + 1 := by rw [hV]; simp
  have b2 : Below V.heap.size V W0 := by rw [hW0]; exact (Below.refl _ _).alloc (Nat.le_refl _) _
  have HB0 := hid (b1.trans (b2.mono b1.size))
  have hr1 : W0.heap[w.heap.size]? = some (.cells #[.int .i64 o, .int .i64 s, .slice a1 n d1] 31 (0, 0)) := (b2.block _ (by omega)).trans (by rw [hV]; exact heap_alloc_new w _)
  have hr2 : W0.heap[w.heap.size + 1]? = some (.cells #[.int .i64 o, .int .i64 s, .slice a2 n d2] 31 (0, 0)) := by rw [hW0, ← hs]; exact heap_alloc_new V _
  have x0 : W0.cell? ⟨w.heap.size, 0, none⟩ = some (.int .i64 o) := by simp [World.cell?, hr1]
  have x1 : W0.cell? ⟨w.heap.size, 1, none⟩ = some (.int .i64 s) := by simp [World.cell?, hr1]
  have x2 : W0.cell? ⟨w.heap.size, 2, none⟩ = some (.slice a1 n d1) := by simp [World.cell?, hr1]
  have y0 : W0.cell? ⟨w.heap.size + 1, 0, none⟩ = some (.int .i64 o) := by simp [World.cell?, hr2]
  have y1 : W0.cell? ⟨w.heap.size + 1, 1, none⟩ = some (.int .i64 s) := by simp [World.cell?, hr2]
  have y2 : W0.cell? ⟨w.heap.size + 1, 2, none⟩ = some (.slice a2 n d2) := by simp [World.cell?, hr2]
  have q0 : (o != o) = false := by simp
  have q1 : (s != s) = false := by simp
  have q2 : ((n : Int) != (n : Int)) = false := by simp
  rw [hV] at hW0
  clear b1 hs b2 hr1 hr2 hV
  have HX2 := hid x2
  have HY2 := hid y2
  go_enter Tryd.func12, Tryd.ntmps12
  go_wp2_with fail
  rw [← hW0]
  clear hW0 x0 x1 y0 y1 q0 q1 q2 x2 y2
  go_loopw [5] (fun u wr => ∃ (i m : Nat), i ≤ n ∧ u = .int .i64 (i : Int) ∧ Hid (wr = W0.drewN m)) (fun u _ => n - (intOf u).toNat)
  case atStart => exact ⟨0, 0, Nat.zero_le _, rfl, rfl⟩
  case round =>
    obtain ⟨i, m, hi, rfl, HWr⟩ := hrel
    have x2 : wr.cell? ⟨w.heap.size, 2, none⟩ = some (.slice a1 n d1) := by rw [HWr.out]; exact HX2.out
    have y2 : wr.cell? ⟨w.heap.size + 1, 2, none⟩ = some (.slice a2 n d2) := by rw [HWr.out]; exact HY2.out
    by_cases hlt : i < n
    · have hlt2 : (i : Int) < (n : Int) := by omega
      have hmx2 := HLM.out.1
      have his : IntKind.i64.wrap ((i : Int) + 1) = (i : Int) + 1 := by rw [IntKind.wrap_i64]; unfold maxLen at hmx2; omega
      have HV : Hid (∀ j, j < 2 → ∃ y g1 g2, a1 = some ⟨g1, 0, none⟩ ∧ a2 = some ⟨g2, 0, none⟩ ∧ wr.cell? ⟨g1, i * 2 + j, none⟩ = some (.int .i64 y) ∧ wr.cell? ⟨g2, i * 2 + j, none⟩ = some (.int .i64 y)) := fun j hj => by
        obtain ⟨y, hy⟩ := celv_int l (i * 2 + j) (by rw [HLM.out.2]; omega)
        obtain ⟨g1, e1, f1⟩ := HS1.out _ _ hy
        obtain ⟨g2, e2, f2⟩ := HS2.out _ _ hy
        have hbb : Below w.heap.size w wr := by rw [HWr.out]; exact HB0.out.trans ((belM W0 m).mono HB0.out.size)
        exact ⟨y, g1, g2, e1, e2, (hbb.cell (p := ⟨g1, i * 2 + j, none⟩) (World.block_lt_of_cell? _ _ f1)).trans f1, (hbb.cell (p := ⟨g2, i * 2 + j, none⟩) (World.block_lt_of_cell? _ _ f2)).trans f2⟩
      obtain ⟨z0, g1, g2, rfl, rfl, p0, r0⟩ := HV.out 0 (by omega)
      obtain ⟨z1, _, _, e1, e2, p1, r1⟩ := HV.out 1 (by omega)
      cases e1; cases e2
      rw [Nat.add_zero] at p0 r0
      clear HV
      have hneq := neq_cell z0 z1
      go_wp2_with fail
      go_quiet (fail)
      go_wp2_with fail
      go_roundw
      case rel => exact ⟨i + 1, m + nq, by omega, by go_num, by unfold Hid; rw [HWr.out]; exact World.drewN_drewN _ _ _⟩
      case measure => simp [intOf]; omega
    · obtain rfl : i = n := by omega
      have hlt2 : ¬ (i : Int) < (i : Int) := by omega
      go_wp2_with fail
      go_ret
      exact ⟨rfl, by rw [HWr.out]; exact HB0.out.trans ((belM W0 m).mono HB0.out.size)⟩

end Go.Proofs.YthemehdcakimgaiDoor

namespace Go.Proofs.YthemehdcakimgaiDoor
open Go.RowKit Go.Maps

/-- instructions, as they lie in memory -/
def insv : List InsZ → List Value
  | [] => []
  | x :: r => .int .i64 x.op :: .int .i64 x.a :: .int .i64 x.b :: .int .i64 x.c :: insv r
theorem insv_len : ∀ L, (insv L).length = L.length * 4
  | [] => rfl
  | c :: r => by simp [insv, insv_len r]; omega
theorem insv_at : ∀ (L : List InsZ) (j : Nat), j < L.length → (insv L)[j * 4]? = some (.int .i64 (insat L j).op) ∧ (insv L)[j * 4 + 1]? = some (.int .i64 (insat L j).a) ∧ (insv L)[j * 4 + 2]? = some (.int .i64 (insat L j).b) ∧ (insv L)[j * 4 + 3]? = some (.int .i64 (insat L j).c)
  | [], _, h => absurd h (Nat.not_lt_zero _)
  | c :: r, 0, _ => ⟨rfl, rfl, rfl, rfl⟩
  | c :: r, j + 1, h => by
    have ih := insv_at r j (by simpa using h)
    have e1 : (j + 1) * 4 = j * 4 + 4 := by omega
    rw [e1]
    exact ih
theorem insv_one : ∀ (L : List InsZ) (u : Value), u ∈ insv L → u.oneCell' = true
  | [], _, h => by cases h
  | x :: r, u, h => by
    simp only [insv, List.mem_cons] at h
    rcases h with rfl | rfl | rfl | rfl | h
    · rfl
    · rfl
    · rfl
    · rfl
    · exact insv_one r u h
/-- instructions of the call's own can be read -/
theorem lstI_of_owns {w : World} {base : Nat} {v : Value} {L : List InsZ} (h : w.ownsRow base 71 4 v L.length (insv L)) : ∃ a cap, v = .slice a L.length cap ∧ LstI w.heap.size w a cap L ∧ ∀ b o, a = some ⟨b, o, none⟩ → base ≤ b := by
  rcases h.2 with ⟨h1, h2⟩ | ⟨g, cap, cur, hv, hbs, hg, hn, _⟩
  · refine ⟨none, 0, by rw [h1, h2], ⟨fun k hk => by omega, by omega, fun _ => rfl⟩, fun b o e => by cases e⟩
  · refine ⟨some ⟨g, 0, none⟩, cap, hv, ⟨fun k hk => ⟨g, 0, rfl, (Array.getElem?_eq_some_iff.1 hg).1, ?_⟩, by omega, fun e => by cases e⟩, fun b o e => by cases e; exact hbs⟩
    have hc : ∀ m x, (insv L)[m]? = some (.int .i64 x) → w.cell? ⟨g, m, none⟩ = some (.int .i64 x) := fun m x hx => by
      have := h.cells (g := g) (by rw [hv]; rfl) m _ hx
      have hadd : (⟨g, 0, none⟩ : Addr).add m = ⟨g, m, none⟩ := by unfold Addr.add; split <;> simp_all
      rw [hadd] at this
      exact this
    obtain ⟨e0, e1, e2, e3⟩ := insv_at L k hk
    simp only [Nat.zero_add]
    exact ⟨hc _ _ e0, hc _ _ e1, hc _ _ e2, hc _ _ e3⟩
theorem div4 (j : Nat) : j = j / 4 * 4 ∨ j = j / 4 * 4 + 1 ∨ j = j / 4 * 4 + 2 ∨ j = j / 4 * 4 + 3 := by omega
/-- instructions in memory, cell by cell -/
theorem LstI.each {n0 : Nat} {w : World} {ad : Addr} {cap : Nat} {L : List InsZ} (hl : LstI n0 w (some ad) cap L) (j : Nat) (u : Value) (hu : (insv L)[j]? = some u) : ∃ b o, ad = ⟨b, o, none⟩ ∧ b < n0 ∧ w.cell? ⟨b, o + j, none⟩ = some u := by
  have hj : j < (insv L).length := by
    rcases Nat.lt_or_ge j (insv L).length with g | g
    · exact g
    · simp [g] at hu
  rw [insv_len] at hj
  have hk : j / 4 < L.length := by omega
  obtain ⟨b, o, h1, h2, c0, c1, c2, c3⟩ := hl.row (j / 4) hk
  obtain ⟨e0, e1, e2, e3⟩ := insv_at L (j / 4) hk
  cases h1
  refine ⟨b, o, rfl, h2, ?_⟩
  rcases div4 j with h | h | h | h <;> (rw [h] at hu ⊢)
  · rw [← hu, e0]; exact c0
  · rw [← hu, e1, ← Nat.add_assoc]; exact c1
  · rw [← hu, e2, ← Nat.add_assoc]; exact c2
  · rw [← hu, e3, ← Nat.add_assoc]; exact c3

theorem wpList_copyI {ops : Array Oper} {rest : List Oper} {o : Oper} {act : Act} {Q : Exit → Act → World → Prop} (w1 : World) (g : Nat) (hgs : w1.heap.size = g) (hgd : o.guard = none) (s x : Operand)
    (ho : o.op = .call { callee := .builtin .append, args := #[s, x], argTypes := #[22, 22] })
    (hs : act.eval s = .slice (some ⟨g, 0, none⟩) 0 0) (av : Option Addr) (cap : Nat) (L : List InsZ) (hx : act.eval x = .slice av L.length cap)
    (hlen : L.length ≤ 4398046511104) (hl : LstI w1.heap.size w1 av cap L)
    (h : ∀ a2 c2 w2, LstI w2.heap.size w2 a2 c2 L → Below w1.heap.size w1 w2 → w1.heap.size < w2.heap.size → (∀ b o, a2 = some ⟨b, o, none⟩ → w1.heap.size ≤ b) → wpList Tryd.prog ops Q rest (act.put o.dst (.slice a2 L.length c2)) w2) :
    wpList Tryd.prog ops Q (o :: rest) act (w1.alloc (.cells #[] 71)) := by
  subst hgs
  obtain ⟨i0, hi, hz0, hz1, hz2⟩ := info_parts (show (Tryd.prog.info? 71).map (fun i => (i.zero, i.size, i.bytes)) = some (some (.agg #[.int .i64 0, .int .i64 0, .int .i64 0, .int .i64 0]), 4, 32) by kernel_rfl)
  have hown : (w1.alloc (.cells #[] 71)).ownsRow w1.heap.size 71 4 (.slice (some ⟨w1.heap.size, 0, none⟩) 0 0) 0 [] := World.ownsRow_made (size := 4) w1 #[] 0 (Nat.le_refl _) (by unfold maxLen; omega) (by simp)
  have hb0 : Below w1.heap.size w1 (w1.alloc (.cells #[] 71)) := (Below.refl _ _).alloc (Nat.le_refl _) _
  cases av with
  | none =>
    have hc := hl.nil rfl
    have hr := hl.room
    obtain rfl : cap = 0 := hc
    obtain rfl : L = [] := List.length_eq_zero_iff.1 (by omega)
    refine wpList_append_own_none hgd s x 22 ho w1.heap.size 71 i0 4 Tryd.underlying22 hi _ _ _ hs hown hx ?_
    exact h (some ⟨w1.heap.size, 0, none⟩) 0 _ ⟨fun k hk => by simp at hk, by simp, fun e => by cases e⟩ hb0 (by simp) (fun b o e => by cases e; exact Nat.le_refl _)
  | some ad =>
    refine wpList_append_own _ hgd s x 22 ho w1.heap.size 71 i0 _ 4 32 Tryd.underlying22 hi hz0 hz1 hz2 rfl (by decide) _ _ _ hs hown ad L.length cap (insv L) hx (by rw [insv_len]) ?_ (fun u hu => insv_one L u hu) (by unfold maxLen; omega) (by omega) (by simp) ?_
    · intro j u hu
      obtain ⟨b, off, rfl, h2, h5⟩ := hl.each j u hu
      have hadd : (⟨b, off, none⟩ : Addr).add j = ⟨b, off + j, none⟩ := by unfold Addr.add; split <;> simp_all
      rw [hadd, World.cell?_alloc_lt _ _ ⟨b, off + j, none⟩ h2]
      exact h5
    · intro v' w2 hown2 hgrow _
      rw [Nat.zero_add, List.nil_append] at hown2
      have hb2 : Below w1.heap.size w1 w2 := hb0.grown hgrow (by simp) (fun k hk => (hown.lt k hk).1)
      obtain ⟨a2, c2, rfl, hl2, hge⟩ := lstI_of_owns hown2
      have hg := hgrow.size
      exact h a2 c2 w2 hl2 hb2 (by simp at hg; omega) hge
theorem neq_ins (y0 y1 y2 y3 : Int) (w : World) : (binOp BinOp.neq 71 (.agg #[.int .i64 y0, .int .i64 y1, .int .i64 y2, .int .i64 y3]) (.agg #[.int .i64 y0, .int .i64 y1, .int .i64 y2, .int .i64 y3])).run Tryd.prog w = .ok (.bool false) w := by
  simp [go_sem]

set_option maxRecDepth 100000 in
set_option maxHeartbeats 2000000 in
theorem alike_same (size : Int) (a1 a2 : Option Addr) (d1 d2 : Nat) (L : List InsZ) (w : World) (hn : L.length ≤ 281474976710656) (h1 : LstI w.heap.size w a1 d1 L) (h2 : LstI w.heap.size w a2 d2 L) :
    Calls Tryd.prog 13 #[.agg #[.int .i64 size, .slice a1 L.length d1], .agg #[.int .i64 size, .slice a2 L.length d2]] w fun e w' => e = .returned (.bool true) ∧ Below w.heap.size w w' := by
  have HS1 := hid h1.row
  have HS2 := hid h2.row
  obtain ⟨n, hn'⟩ : ∃ n, n = L.length := ⟨_, rfl⟩
  rw [← hn'] at hn HS1 HS2 ⊢
  have HN := hid hn
  clear h1 h2 hn'
  obtain ⟨V, hV⟩ : ∃ V, V = w.alloc (.cells #[.int .i64 size, .slice a1 n d1] 24) := ⟨_, rfl⟩
  obtain ⟨W0, hW0⟩ : ∃ W0, W0 = V.alloc (.cells #[.int .i64 size, .slice a2 n d2] 24) := ⟨_, rfl⟩
  have b1 : Below w.heap.size w V := by rw [hV]; exact (Below.refl _ _).alloc (Nat.le_refl _) _
  have hs : V.heap.size = w.heap.size + 1 := by rw [hV]; simp
  have b2 : Below V.heap.size V W0 := by rw [hW0]; exact (Below.refl _ _).alloc (Nat.le_refl _) _
  have HB0 := hid (b1.trans (b2.mono b1.size))
  have hr1 : W0.heap[w.heap.size]? = some (.cells #[.int .i64 size, .slice a1 n d1] 24 (0, 0)) := (b2.block _ (by omega)).trans (by rw [hV]; exact heap_alloc_new w _)
  have hr2 : W0.heap[w.heap.size + 1]? = some (.cells #[.int .i64 size, .slice a2 n d2] 24 (0, 0)) := by rw [hW0, ← hs]; exact heap_alloc_new V _
  have x0 : W0.cell? ⟨w.heap.size, 0, none⟩ = some (.int .i64 size) := by simp [World.cell?, hr1]
  have x1 : W0.cell? ⟨w.heap.size, 1, none⟩ = some (.slice a1 n d1) := by simp [World.cell?, hr1]
  have y0 : W0.cell? ⟨w.heap.size + 1, 0, none⟩ = some (.int .i64 size) := by simp [World.cell?, hr2]
  have y1 : W0.cell? ⟨w.heap.size + 1, 1, none⟩ = some (.slice a2 n d2) := by simp [World.cell?, hr2]
  have q0 : (size != size) = false := by simp
  have q2 : ((n : Int) != (n : Int)) = false := by simp
  rw [hV] at hW0
  clear b1 hs b2 hr1 hr2 hV hn
  have HX1 := hid x1
  have HY1 := hid y1
  go_enter Tryd.func13, Tryd.ntmps13
  go_wp2_with fail
  rw [← hW0]
  clear hW0 x0 x1 y0 y1 q0 q2
  go_loopw [5] (fun u wr => ∃ (i m : Nat), i ≤ n ∧ u = .int .i64 (i : Int) ∧ Hid (wr = W0.drewN m)) (fun u _ => n - (intOf u).toNat)
  case atStart => exact ⟨0, 0, Nat.zero_le _, rfl, rfl⟩
  case round =>
    obtain ⟨i, m, hi, rfl, HWr⟩ := hrel
    have x1 : wr.cell? ⟨w.heap.size, 1, none⟩ = some (.slice a1 n d1) := by rw [HWr.out]; exact HX1.out
    have y1 : wr.cell? ⟨w.heap.size + 1, 1, none⟩ = some (.slice a2 n d2) := by rw [HWr.out]; exact HY1.out
    by_cases hlt : i < n
    · have hlt2 : (i : Int) < (n : Int) := by omega
      have hmx2 := HN.out
      have his : IntKind.i64.wrap ((i : Int) + 1) = (i : Int) + 1 := by rw [IntKind.wrap_i64]; omega
      have hbb : Below w.heap.size w wr := by rw [HWr.out]; exact HB0.out.trans ((belM W0 m).mono HB0.out.size)
      obtain ⟨g1, o1, rfl, l1, p0, p1, p2, p3⟩ := HS1.out i hlt
      obtain ⟨g2, o2, rfl, l2, r0, r1, r2, r3⟩ := HS2.out i hlt
      replace p0 := (hbb.cell (p := ⟨g1, o1 + i * 4, none⟩) l1).trans p0
      replace p1 := (hbb.cell (p := ⟨g1, o1 + i * 4 + 1, none⟩) l1).trans p1
      replace p2 := (hbb.cell (p := ⟨g1, o1 + i * 4 + 2, none⟩) l1).trans p2
      replace p3 := (hbb.cell (p := ⟨g1, o1 + i * 4 + 3, none⟩) l1).trans p3
      replace r0 := (hbb.cell (p := ⟨g2, o2 + i * 4, none⟩) l2).trans r0
      replace r1 := (hbb.cell (p := ⟨g2, o2 + i * 4 + 1, none⟩) l2).trans r1
      replace r2 := (hbb.cell (p := ⟨g2, o2 + i * 4 + 2, none⟩) l2).trans r2
      replace r3 := (hbb.cell (p := ⟨g2, o2 + i * 4 + 3, none⟩) l2).trans r3
      generalize (insat L i).op = z0 at p0 r0
      generalize (insat L i).a = z1 at p1 r1
      generalize (insat L i).b = z2 at p2 r2
      generalize (insat L i).c = z3 at p3 r3
      have hneq := neq_ins z0 z1 z2 z3
      clear hbb l1 l2 hmx2
      go_wp2_with fail
      go_quiet (fail)
      go_wp2_with fail
      go_roundw
      case rel => exact ⟨i + 1, m + nq, by omega, by go_num, by unfold Hid; rw [HWr.out]; exact World.drewN_drewN _ _ _⟩
      case measure => simp [intOf]; omega
    · obtain rfl : i = n := by omega
      have hlt2 : ¬ (i : Int) < (i : Int) := by omega
      go_wp2_with fail
      go_ret
      exact ⟨rfl, by rw [HWr.out]; exact HB0.out.trans ((belM W0 m).mono HB0.out.size)⟩

end Go.Proofs.YthemehdcakimgaiDoor

namespace Go.Proofs.YthemehdcakimgaiDoor
open Go.RowKit Go.Maps

/-- what a machine shows is told, and what was told stays -/
def Okk (p : Nat) (cs0 : List (Int × Int)) (s : RM) : Prop := s.err = 0 → Zer s.cs ∧ (∀ j, 0 ≤ finz s.cs (s.at' j) ∧ cvl s.cs (s.at' j) = s.is' j) ∧ (∀ u, 0 ≤ finz cs0 u → 0 ≤ finz s.cs u ∧ cvl s.cs u = cvl cs0 u) ∧ (∀ u, 0 ≤ finz s.cs u → 0 ≤ u ∧ u < p)
theorem upd_two (f g : Nat → Int) (k : Nat) (x y : Int) (j : Nat) : (updM f k x j = x ∧ updM g k y j = y) ∨ (updM f k x j = f j ∧ updM g k y j = g j) := by
  unfold updM
  split
  · exact .inl ⟨rfl, rfl⟩
  · exact .inr ⟨rfl, rfl⟩
theorem okk_look {p : Nat} {cs0 : List (Int × Int)} {s : RM} (h : Okk p cs0 s) (x : Int) : Okk p cs0 (s.look x).1 := by
  by_cases he : s.err = 0
  · obtain ⟨h1, h2, h3, h4⟩ := h he
    rw [look_eq he]
    by_cases hx : 0 ≤ finz s.cs x
    · rw [if_pos hx]
      intro _
      refine ⟨h1, fun j => ?_, h3, h4⟩
      show 0 ≤ finz s.cs (updM s.at' s.slot x j) ∧ cvl s.cs (updM s.at' s.slot x j) = updM s.is' s.slot (cvl s.cs x) j
      rcases upd_two s.at' s.is' s.slot x (cvl s.cs x) j with ⟨e1, e2⟩ | ⟨e1, e2⟩
      · rw [e1, e2]; exact ⟨hx, rfl⟩
      · rw [e1, e2]; exact h2 j
    · rw [if_neg hx]
      intro e
      exact absurd (show (10 : Int) = 0 from e) (by decide)
  · rw [look_err he]
    exact h
theorem okk_tell {p : Nat} {cs0 : List (Int × Int)} {s : RM} (h : Okk p cs0 s) (x y : Int) (hx : 0 ≤ x ∧ x < p) : Okk p cs0 (s.tell p x y) := by
  by_cases he : s.err = 0
  · obtain ⟨h1, h2, h3, h4⟩ := h he
    rw [tell_eq he]
    by_cases ht : (tel s.cs x (y % (p : Int))).1 = 0
    · rw [if_pos ht]
      intro _
      have hxx : 0 ≤ finz (tel s.cs x (y % (p : Int))).2 x := by rw [(tel_same ht).1]; exact tld_finz.2 (.inr rfl)
      refine ⟨h1.tel ht, fun j => ?_, fun u hu => ?_, fun u hu => ?_⟩
      · show 0 ≤ finz (tel s.cs x (y % (p : Int))).2 (updM s.at' s.slot x j) ∧ cvl (tel s.cs x (y % (p : Int))).2 (updM s.at' s.slot x j) = updM s.is' s.slot (y % (p : Int)) j
        rcases upd_two s.at' s.is' s.slot x (y % (p : Int)) j with ⟨e1, e2⟩ | ⟨e1, e2⟩
        · rw [e1, e2]; exact ⟨hxx, tel_is ht⟩
        · rw [e1, e2]
          have hk := tel_keep ht (h2 j).1
          exact ⟨hk.2, hk.1.trans (h2 j).2⟩
      · have hk := tel_keep ht (h3 u hu).1
        exact ⟨hk.2, hk.1.trans (h3 u hu).2⟩
      · have hu' : 0 ≤ finz (tel s.cs x (y % (p : Int))).2 u := hu
        rw [(tel_same ht).1] at hu'
        rcases tld_finz.1 hu' with h5 | h5
        · exact h4 u h5
        · rw [h5]; exact hx
    · rw [if_neg ht]
      intro e
      exact absurd (show (7 : Int) = 0 from e) (by decide)
  · rw [tell_err he]
    exact h
theorem okk_must {p : Nat} {cs0 : List (Int × Int)} {s : RM} (h : Okk p cs0 s) (b : Bool) : Okk p cs0 (s.must b) := by
  unfold RM.must
  split
  · intro e
    exact absurd (show (7 : Int) = 0 from e) (by decide)
  · exact h
theorem okk_rck {p : Nat} {cs0 : List (Int × Int)} {s : RM} (h : Okk p cs0 s) (op y : Int) : Okk p cs0 (s.rck op y) := by
  unfold RM.rck
  split
  · exact okk_must h _
  · exact h
theorem okk_step {p : Nat} {cs0 : List (Int × Int)} {s : RM} (hp : 3 ≤ p) (h : Okk p cs0 s) (hr : 0 ≤ s.ap ∧ s.ap < p) (op a b c : Int) : Okk p cs0 (s.step p op a b c).1 := by
  have e := fun x => emod_bounds x p hp
  unfold RM.step
  split
  · unfold RM.three
    exact okk_tell (okk_rck (okk_look (okk_look h _) _) _ _) _ _ (e _)
  · split
    · exact okk_tell h _ _ (e _)
    · split
      · exact okk_must (okk_look (okk_look h _) _) _
      · split
        · exact h
        · split
          · exact okk_look h _
          · split
            · exact okk_tell (okk_tell h _ _ hr) _ _ (e _)
            · split
              · exact okk_look (okk_look (okk_look h _) _) _
              · split
                · exact okk_tell h _ _ (e _)
                · split
                  · exact okk_tell (okk_look h _) _ _ (e _)
                  · split
                    · exact okk_look h _
                    · intro e
                      exact absurd (show (7 : Int) = 0 from e) (by decide)
/-- a step's three cells, as they are told -/
def Tld3 (cs : List (Int × Int)) (x : List Int) : Prop := ∀ j, j < 3 → 0 ≤ finz cs (x.getD (4 + j) 0) ∧ cvl cs (x.getD (4 + j) 0) = x.getD (7 + j) 0
theorem now_tld {p : Nat} {cs0 : List (Int × Int)} {s : RM} (h : Okk p cs0 s) (he : s.err = 0) : Tld3 s.cs s.now ∧ s.now.length = 10 := by
  refine ⟨fun j hj => ?_, rfl⟩
  have h2 := (h he).2.1
  have : j = 0 ∨ j = 1 ∨ j = 2 := by omega
  rcases this with rfl | rfl | rfl
  · exact h2 0
  · exact h2 1
  · exact h2 2
theorem okk_fresh {p : Nat} {cs : List (Int × Int)} (hz : Zer cs) (hb : ∀ u, 0 ≤ finz cs u → 0 ≤ u ∧ u < (p : Int)) (n : Rg) : Okk p cs (freshM cs n) := fun _ => ⟨hz, fun _ => hz, fun _ hu => ⟨hu, rfl⟩, hb⟩
theorem mgo_once (p : Nat) (L : List InsZ) (limit : Nat) (hp : 3 ≤ p) : ∀ (f : Nat) (k : Nat) (n : Rg) (cs1 : List (Int × Int)) (done l : List (List Int)) (cs : List (Int × Int)), mgo p L limit f (freshM cs1 n) done = .good l cs → Zer cs1 → (∀ u, 0 ≤ finz cs1 u → 0 ≤ u ∧ u < (p : Int)) → SOk p k 0 (freshM cs1 n) → RgB p n → (∀ x, x ∈ done → Tld3 cs1 x ∧ x.length = 10) →
    Zer cs ∧ (∀ u, 0 ≤ finz cs u → 0 ≤ u ∧ u < (p : Int)) ∧ ∀ x, x ∈ l → Tld3 cs x ∧ x.length = 10
  | 0, _, _, _, _, _, _, h, _, _, _, _, _ => by simp [mgo] at h
  | f + 1, k, n, cs1, done, l, cs, h, hz, hb, hs, hr, hd => by
    rw [mgo] at h
    split at h
    · cases h
    · split at h
      · cases h
      · split at h
        · cases h
        · rename_i her
          generalize hop : (insat L (freshM cs1 n).pc.toNat).op = op at h her
          generalize (insat L (freshM cs1 n).pc.toNat).a = a at h her
          generalize (insat L (freshM cs1 n).pc.toNat).b = b at h her
          generalize (insat L (freshM cs1 n).pc.toNat).c = c at h her
          have he0 : ((freshM cs1 n).step p op a b c).1.err = 0 := Decidable.byContradiction her
          have hk := okk_step hp (okk_fresh hz hb n) hr.2.2.1 op a b c
          have hso := step_ok hp hs hr op a b c
          have hnow := now_tld hk he0
          obtain ⟨g1, g2, g3, g4⟩ := hk he0
          have hall : ∀ x, x ∈ done ++ [((freshM cs1 n).step p op a b c).1.now] → Tld3 ((freshM cs1 n).step p op a b c).1.cs x ∧ x.length = 10 := fun x hx => by
            rcases List.mem_append.1 hx with hx | hx
            · obtain ⟨hd1, hd2⟩ := hd x hx
              exact ⟨fun j hj => ⟨(g3 _ (hd1 j hj).1).1, (g3 _ (hd1 j hj).1).2.trans (hd1 j hj).2⟩, hd2⟩
            · rw [List.mem_singleton] at hx
              rw [hx]
              exact hnow
          split at h
          · injection h with h1 h2
            rw [← h1, ← h2]
            exact ⟨g1, g4, hall⟩
          · exact mgo_once p L limit hp f (k + 2) _ _ _ l cs h g1 g4 ⟨hso.1.1, hso.1.2.1, fun _ => Nat.le_refl _⟩ hso.2 hall
theorem mwalk_once {p : Nat} {size : Int} {L : List InsZ} {limit : Nat} {l : List (List Int)} {cs : List (Int × Int)} (hp : 3 ≤ p) (h : mwalk p size L limit = .good l cs) :
    Zer cs ∧ (∀ u, 0 ≤ finz cs u → 0 ≤ u ∧ u < (p : Int)) ∧ ∀ x, x ∈ l → Tld3 cs x ∧ x.length = 10 := by
  refine mgo_once p L limit hp _ 1 _ _ _ l cs h zer_first (fun u hu => ?_) ⟨fun j hj => ?_, Nat.le_refl _, fun _ => Nat.le_refl _⟩ ⟨⟨Int.le_refl _, by show (0 : Int) < p; omega⟩, ⟨by show (0 : Int) ≤ 1; omega, by show (1 : Int) < p; omega⟩, emod_bounds _ p hp, ⟨Int.le_refl _, by show (0 : Int) < p; omega⟩⟩ (fun x hx => by cases hx)
  · have : u = 0 := by
      rcases finz_cases [(0, 0)] u with e | ⟨i, _, hi, he⟩
      · omega
      · have : i = 0 := by simpa using hi
        subst this
        simpa [cat] using he.symm
    subst this
    exact ⟨Int.le_refl _, by omega⟩
  · have : j = 0 := by simpa [freshM] using hj
    subst this
    show 0 ≤ (0 : Int) ∧ (0 : Int) < p
    omega

end Go.Proofs.YthemehdcakimgaiDoor

namespace Go.Proofs.YthemehdcakimgaiDoor
open Go.RowKit Go.Maps

/-- the least of the first i cells above low -/
def Bst (cs : List (Int × Int)) (low : Int) (i : Nat) (b : Int) : Prop := (b = -1 ∧ ∀ j, j < i → (cat cs j).1 ≤ low) ∨ ∃ m : Nat, b = m ∧ m < i ∧ low < (cat cs m).1 ∧ (∀ j, j < i → low < (cat cs j).1 → (cat cs m).1 ≤ (cat cs j).1) ∧ (∀ j, j < m → (cat cs j).1 ≠ (cat cs m).1)
theorem bst_first (cs : List (Int × Int)) (low : Int) : Bst cs low 0 (-1) := .inl ⟨rfl, fun _ h => absurd h (Nat.not_lt_zero _)⟩
theorem bst_skip {cs : List (Int × Int)} {low : Int} {i : Nat} {b : Int} (h : Bst cs low i b) (hn : (cat cs i).1 ≤ low ∨ ∃ m : Nat, b = m ∧ (cat cs m).1 ≤ (cat cs i).1) : Bst cs low (i + 1) b := by
  rcases h with ⟨h1, h2⟩ | ⟨m, h1, h2, h3, h4, h5⟩
  · refine .inl ⟨h1, fun j hj => ?_⟩
    rcases hn with hn | ⟨m, hm, _⟩
    · by_cases e : j = i
      · rw [e]; exact hn
      · exact h2 j (by omega)
    · omega
  · refine .inr ⟨m, h1, by omega, h3, fun j hj hl => ?_, h5⟩
    by_cases e : j = i
    · subst e
      rcases hn with hn | ⟨m', hm, hn⟩
      · omega
      · have : m' = m := by omega
        subst this
        exact hn
    · exact h4 j (by omega) hl
theorem bst_take {cs : List (Int × Int)} {low : Int} {i : Nat} {b : Int} (h : Bst cs low i b) (hl : low < (cat cs i).1) (hn : b < 0 ∨ ∃ m : Nat, b = m ∧ (cat cs i).1 < (cat cs m).1) : Bst cs low (i + 1) i := by
  refine .inr ⟨i, rfl, by omega, hl, ?_, ?_⟩
  · intro j hj hlj
    by_cases e : j = i
    · rw [e]; exact Int.le_refl _
    · rcases h with ⟨_, h2⟩ | ⟨m, h1, h2, h3, h4, _⟩
      · have := h2 j (by omega); omega
      · have := h4 j (by omega) hlj
        rcases hn with hn | ⟨m', hm, hn⟩
        · omega
        · have : m' = m := by omega
          subst this
          omega
  · intro j hj e
    rcases h with ⟨_, h2⟩ | ⟨m, h1, h2, h3, h4, _⟩
    · have := h2 j hj; omega
    · have := h4 j hj (by omega)
      rcases hn with hn | ⟨m', hm, hn⟩
      · omega
      · have : m' = m := by omega
        subst this
        omega
/-- what is listed so far -/
def Pre6 (cs : List (Int × Int)) (low : Int) (pre : List (Int × Int)) : Prop := 0 ≤ low ∧ pre.Pairwise (fun a b => a.1 < b.1) ∧ ∀ x y, (x, y) ∈ pre ↔ (0 < x ∧ x ≤ low ∧ 0 ≤ finz cs x ∧ cvl cs x = y)
theorem pre6_first (cs : List (Int × Int)) : Pre6 cs 0 [] := ⟨Int.le_refl _, List.Pairwise.nil, fun x y => ⟨fun h => (by cases h), fun h => by omega⟩⟩
theorem finz_at {cs : List (Int × Int)} {m : Nat} (hm : m < cs.length) (hn : ∀ j, j < m → (cat cs j).1 ≠ (cat cs m).1) : finz cs (cat cs m).1 = m ∧ cvl cs (cat cs m).1 = (cat cs m).2 := by
  have h := finz_hit hm rfl hn
  refine ⟨h, ?_⟩
  unfold cvl
  rw [h, if_pos (by omega), Int.toNat_natCast]
theorem pre6_more {cs : List (Int × Int)} {low : Int} {pre : List (Int × Int)} {m : Nat} (h : Pre6 cs low pre) (hm : m < cs.length) (hl : low < (cat cs m).1) (hle : ∀ j, j < cs.length → low < (cat cs j).1 → (cat cs m).1 ≤ (cat cs j).1) (hn : ∀ j, j < m → (cat cs j).1 ≠ (cat cs m).1) : Pre6 cs (cat cs m).1 (pre ++ [cat cs m]) := by
  obtain ⟨h1, h2, h3⟩ := h
  obtain ⟨f1, f2⟩ := finz_at hm hn
  refine ⟨by omega, ?_, fun x y => ?_⟩
  · rw [List.pairwise_append]
    refine ⟨h2, List.pairwise_singleton _ _, fun a ha b hb => ?_⟩
    rw [List.mem_singleton] at hb
    subst hb
    have := (h3 a.1 a.2).1 ha
    omega
  · rw [List.mem_append, List.mem_singleton, h3 x y]
    constructor
    · rintro (⟨e1, e2, e3⟩ | e)
      · exact ⟨e1, by omega, e3⟩
      · have ex : x = (cat cs m).1 := congrArg Prod.fst e
        have ey : y = (cat cs m).2 := congrArg Prod.snd e
        subst ex ey
        exact ⟨by omega, Int.le_refl _, by omega, f2⟩
    · rintro ⟨e1, e2, e3, e4⟩
      by_cases hx : x ≤ low
      · exact .inl ⟨e1, hx, e3, e4⟩
      · right
        rcases finz_cases cs x with e5 | ⟨i, e5, e6, e7⟩
        · omega
        · have := hle i e6 (by omega)
          have hxe : x = (cat cs m).1 := by omega
          have hye : y = (cat cs m).2 := by rw [← e4, hxe]; exact f2
          rw [hxe, hye]
theorem pre6_end {p : Nat} {cs : List (Int × Int)} {low : Int} {pre : List (Int × Int)} (h : Pre6 cs low pre) (hb : ∀ u, 0 ≤ finz cs u → 0 ≤ u ∧ u < (p : Int)) (hp : p ≤ 2147483647) (hle : ∀ j, j < cs.length → (cat cs j).1 ≤ low) : AscC cs pre := by
  refine ⟨h.2.1, fun x y => ?_⟩
  rw [h.2.2 x y]
  constructor
  · rintro ⟨e1, e2, e3, e4⟩
    have := hb x e3
    exact ⟨by omega, ⟨by omega, by omega⟩, e3, e4⟩
  · rintro ⟨e1, e2, e3, e4⟩
    have := hb x e3
    rcases finz_cases cs x with e5 | ⟨i, e5, e6, e7⟩
    · omega
    · have := hle i e6
      exact ⟨by omega, by omega, e3, e4⟩
theorem finz_key {cs : List (Int × Int)} {j : Nat} (hj : j < cs.length) : 0 ≤ finz cs (cat cs j).1 := by
  rcases Int.lt_or_le (finz cs (cat cs j).1) 0 with h | h
  · exfalso
    have hm : finz cs (cat cs j).1 ≠ -1 := by
      intro e
      unfold finz at e
      split at e
      · omega
      · rename_i hnone
        rw [List.findIdx?_eq_none_iff] at hnone
        have h1 := hnone cs[j] (List.getElem_mem hj)
        simp [cat, hj] at h1
    rcases finz_cases cs (cat cs j).1 with e | ⟨i, e, _⟩
    · exact hm e
    · omega
  · exact h

end Go.Proofs.YthemehdcakimgaiDoor
