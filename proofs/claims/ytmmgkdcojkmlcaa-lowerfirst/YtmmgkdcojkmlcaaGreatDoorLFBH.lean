/- Package machine: Run. Runs, plainly: a greater limit; one ascending list. attestlaw6: rans, plain. attestlaw6: copied, alike. Runs, plainly: what is told is told for good. attestref6.Run, plainly: the least cell above a number, again and again. attestlaw6: plain, lives. -/
import Derived.Test.YtmmgkdcojkmlcaaGreatDoorLFBF
import Derived.Test.YtmmgkdcojkmlcaaGreatDoorLFBG
import Derived.Test.YtmmgkdcojkmlcaaGreatDoorFld
import Derived.Test.YtmmgkdcojkmlcaaGreatDoorLFAM
import Derived.Laws.AppendOwnNone
namespace Go.Proofs.YtmmgkdcojkmlcaaGreatDoor
open Go.RowKit Go.Maps

theorem results_ctM {P : Program} {fn : Func} {p u : Tmp} {ty : TypeId} (h : fn.results = #[.cell p ty, .tmp u]) (tmps : Array Value) (w : World) (g : Nat) (tt : TypeId) (cs : Array Value) (fr : Nat × Nat) (d : TypeDesc)
    (hp : tmps.getD p undef = .pointer (some ⟨g, 0, none⟩)) (hg : w.heap[g]? = some (.cells cs tt fr))
    (hu : P.underlying ty = some d) (hd : (match d with | .struct _ | .array _ _ => true | _ => false) = true) (hi : (P.info? ty).map (·.size) = some cs.size) :
    (results fn tmps).run P w = .ok (.tuple #[.agg cs, tmps.getD u undef]) w := by
  have hp' : tmps[p]?.getD undef = .pointer (some ⟨g, 0, none⟩) := by simpa using hp
  simp [results, h, hp', asAddr, run_loadVar_row w g tt ty cs fr d hg hu hd hi]
end Go.Proofs.YtmmgkdcojkmlcaaGreatDoor

namespace Go.Proofs.YtmmgkdcojkmlcaaGreatDoor
open Go.RowKit Go.Maps

end Go.Proofs.YtmmgkdcojkmlcaaGreatDoor

namespace Go.Proofs.YtmmgkdcojkmlcaaGreatDoor
open Go.RowKit Go.Maps

end Go.Proofs.YtmmgkdcojkmlcaaGreatDoor

namespace Go.Proofs.YtmmgkdcojkmlcaaGreatDoor
open Go.RowKit Go.Maps

/-- instructions, as they lie in memory -/
def insv : List InsZ → List Value
  | [] => []
  | x :: r => .int .i64 x.op :: .int .i64 x.a :: .int .i64 x.b :: .int .i64 x.c :: insv r
theorem insv_len : ∀ L, (insv L).length = L.length * 4
  | [] => rfl
  | c :: r => by simp [insv, insv_len r]; omega
theorem insv_at : ∀ (L : List InsZ) (j : Nat), j < L.length → (insv L)[j * 4]? = some (.int .i64 (insat L j).op) ∧ (insv L)[j * 4 + 1]? = some (.int .i64 (insat L j).a) ∧ (insv L)[j * 4 + 2]? = some (.int .i64 (insat L j).b) ∧ (insv L)[j * 4 + 3]? = some (.int .i64 (insat L j).c)
  | [], _, h => absurd h (Nat.not_lt_zero _)
  | c :: r, 0, _ => ⟨rfl, rfl, rfl, rfl⟩
  | c :: r, j + 1, h => by
    have ih := insv_at r j (by simpa using h)
    have e1 : (j + 1) * 4 = j * 4 + 4 := by omega
    rw [e1]
    exact ih
theorem insv_one : ∀ (L : List InsZ) (u : Value), u ∈ insv L → u.oneCell' = true
  | [], _, h => by cases h
  | x :: r, u, h => by
    simp only [insv, List.mem_cons] at h
    rcases h with rfl | rfl | rfl | rfl | h
    · rfl
    · rfl
    · rfl
    · rfl
    · exact insv_one r u h
/-- instructions of the call's own can be read -/
theorem lstI_of_owns {w : World} {base : Nat} {v : Value} {L : List InsZ} (h : w.ownsRow base 35 4 v L.length (insv L)) : ∃ a cap, v = .slice a L.length cap ∧ LstI w.heap.size w a cap L ∧ ∀ b o, a = some ⟨b, o, none⟩ → base ≤ b := by
  rcases h.2 with ⟨h1, h2⟩ | ⟨g, cap, cur, hv, hbs, hg, hn, _⟩
  · refine ⟨none, 0, by rw [h1, h2], ⟨fun k hk => by omega, by omega, fun _ => rfl⟩, fun b o e => by cases e⟩
  · refine ⟨some ⟨g, 0, none⟩, cap, hv, ⟨fun k hk => ⟨g, 0, rfl, (Array.getElem?_eq_some_iff.1 hg).1, ?_⟩, by omega, fun e => by cases e⟩, fun b o e => by cases e; exact hbs⟩
    have hc : ∀ m x, (insv L)[m]? = some (.int .i64 x) → w.cell? ⟨g, m, none⟩ = some (.int .i64 x) := fun m x hx => by
      have := h.cells (g := g) (by rw [hv]; rfl) m _ hx
      have hadd : (⟨g, 0, none⟩ : Addr).add m = ⟨g, m, none⟩ := by unfold Addr.add; split <;> simp_all
      rw [hadd] at this
      exact this
    obtain ⟨e0, e1, e2, e3⟩ := insv_at L k hk
    simp only [Nat.zero_add]
    exact ⟨hc _ _ e0, hc _ _ e1, hc _ _ e2, hc _ _ e3⟩
theorem div4 (j : Nat) : j = j / 4 * 4 ∨ j = j / 4 * 4 + 1 ∨ j = j / 4 * 4 + 2 ∨ j = j / 4 * 4 + 3 := by omega
/-- instructions in memory, cell by cell -/
theorem LstI.each {n0 : Nat} {w : World} {ad : Addr} {cap : Nat} {L : List InsZ} (hl : LstI n0 w (some ad) cap L) (j : Nat) (u : Value) (hu : (insv L)[j]? = some u) : ∃ b o, ad = ⟨b, o, none⟩ ∧ b < n0 ∧ w.cell? ⟨b, o + j, none⟩ = some u := by
  have hj : j < (insv L).length := by
    rcases Nat.lt_or_ge j (insv L).length with g | g
    · exact g
    · simp [g] at hu
  rw [insv_len] at hj
  have hk : j / 4 < L.length := by omega
  obtain ⟨b, o, h1, h2, c0, c1, c2, c3⟩ := hl.row (j / 4) hk
  obtain ⟨e0, e1, e2, e3⟩ := insv_at L (j / 4) hk
  cases h1
  refine ⟨b, o, rfl, h2, ?_⟩
  rcases div4 j with h | h | h | h <;> (rw [h] at hu ⊢)
  · rw [← hu, e0]; exact c0
  · rw [← hu, e1, ← Nat.add_assoc]; exact c1
  · rw [← hu, e2, ← Nat.add_assoc]; exact c2
  · rw [← hu, e3, ← Nat.add_assoc]; exact c3

theorem neq_ins (y0 y1 y2 y3 : Int) (w : World) : (binOp BinOp.neq 35 (.agg #[.int .i64 y0, .int .i64 y1, .int .i64 y2, .int .i64 y3]) (.agg #[.int .i64 y0, .int .i64 y1, .int .i64 y2, .int .i64 y3])).run Tryz.prog w = .ok (.bool false) w := by
  simp [go_sem]

set_option maxRecDepth 100000 in
set_option maxHeartbeats 2000000 in
theorem alike_same (size : Int) (a1 a2 : Option Addr) (d1 d2 : Nat) (L : List InsZ) (w : World) (hn : L.length ≤ 281474976710656) (h1 : LstI w.heap.size w a1 d1 L) (h2 : LstI w.heap.size w a2 d2 L) :
    Calls Tryz.prog 9 #[.agg #[.int .i64 size, .slice a1 L.length d1], .agg #[.int .i64 size, .slice a2 L.length d2]] w fun e w' => e = .returned (.bool true) ∧ Below w.heap.size w w' := by
  have HS1 := hid h1.row
  have HS2 := hid h2.row
  obtain ⟨n, hn'⟩ : ∃ n, n = L.length := ⟨_, rfl⟩
  rw [← hn'] at hn HS1 HS2 ⊢
  have HN := hid hn
  clear h1 h2 hn'
  obtain ⟨V, hV⟩ : ∃ V, V = w.alloc (.cells #[.int .i64 size, .slice a1 n d1] 24) := ⟨_, rfl⟩
  obtain ⟨W0, hW0⟩ : ∃ W0, W0 = V.alloc (.cells #[.int .i64 size, .slice a2 n d2] 24) := ⟨_, rfl⟩
  have b1 : Below w.heap.size w V := by rw [hV]; exact (Below.refl _ _).alloc (Nat.le_refl _) _
  have hs : V.heap.size = w.heap.size + 1 := by rw [hV]; simp
  have b2 : Below V.heap.size V W0 := by rw [hW0]; exact (Below.refl _ _).alloc (Nat.le_refl _) _
  have HB0 := hid (b1.trans (b2.mono b1.size))
  have hr1 : W0.heap[w.heap.size]? = some (.cells #[.int .i64 size, .slice a1 n d1] 24 (0, 0)) := (b2.block _ (by omega)).trans (by rw [hV]; exact heap_alloc_new w _)
  have hr2 : W0.heap[w.heap.size + 1]? = some (.cells #[.int .i64 size, .slice a2 n d2] 24 (0, 0)) := by rw [hW0, ← hs]; exact heap_alloc_new V _
  have x0 : W0.cell? ⟨w.heap.size, 0, none⟩ = some (.int .i64 size) := by simp [World.cell?, hr1]
  have x1 : W0.cell? ⟨w.heap.size, 1, none⟩ = some (.slice a1 n d1) := by simp [World.cell?, hr1]
  have y0 : W0.cell? ⟨w.heap.size + 1, 0, none⟩ = some (.int .i64 size) := by simp [World.cell?, hr2]
  have y1 : W0.cell? ⟨w.heap.size + 1, 1, none⟩ = some (.slice a2 n d2) := by simp [World.cell?, hr2]
  have q0 : (size != size) = false := by simp
  have q2 : ((n : Int) != (n : Int)) = false := by simp
  rw [hV] at hW0
  clear b1 hs b2 hr1 hr2 hV hn
  have HX1 := hid x1
  have HY1 := hid y1
  go_enter Tryz.func9, Tryz.ntmps9
  go_wp2_with fail
  rw [← hW0]
  clear hW0 x0 x1 y0 y1 q0 q2
  go_loopw [5] (fun u wr => ∃ (i m : Nat), i ≤ n ∧ u = .int .i64 (i : Int) ∧ Hid (wr = W0.drewN m)) (fun u _ => n - (intOf u).toNat)
  case atStart => exact ⟨0, 0, Nat.zero_le _, rfl, rfl⟩
  case round =>
    obtain ⟨i, m, hi, rfl, HWr⟩ := hrel
    have x1 : wr.cell? ⟨w.heap.size, 1, none⟩ = some (.slice a1 n d1) := by rw [HWr.out]; exact HX1.out
    have y1 : wr.cell? ⟨w.heap.size + 1, 1, none⟩ = some (.slice a2 n d2) := by rw [HWr.out]; exact HY1.out
    by_cases hlt : i < n
    · have hlt2 : (i : Int) < (n : Int) := by omega
      have hmx2 := HN.out
      have his : IntKind.i64.wrap ((i : Int) + 1) = (i : Int) + 1 := by rw [IntKind.wrap_i64]; omega
      have hbb : Below w.heap.size w wr := by rw [HWr.out]; exact HB0.out.trans ((belM W0 m).mono HB0.out.size)
      obtain ⟨g1, o1, rfl, l1, p0, p1, p2, p3⟩ := HS1.out i hlt
      obtain ⟨g2, o2, rfl, l2, r0, r1, r2, r3⟩ := HS2.out i hlt
      replace p0 := (hbb.cell (p := ⟨g1, o1 + i * 4, none⟩) l1).trans p0
      replace p1 := (hbb.cell (p := ⟨g1, o1 + i * 4 + 1, none⟩) l1).trans p1
      replace p2 := (hbb.cell (p := ⟨g1, o1 + i * 4 + 2, none⟩) l1).trans p2
      replace p3 := (hbb.cell (p := ⟨g1, o1 + i * 4 + 3, none⟩) l1).trans p3
      replace r0 := (hbb.cell (p := ⟨g2, o2 + i * 4, none⟩) l2).trans r0
      replace r1 := (hbb.cell (p := ⟨g2, o2 + i * 4 + 1, none⟩) l2).trans r1
      replace r2 := (hbb.cell (p := ⟨g2, o2 + i * 4 + 2, none⟩) l2).trans r2
      replace r3 := (hbb.cell (p := ⟨g2, o2 + i * 4 + 3, none⟩) l2).trans r3
      generalize (insat L i).op = z0 at p0 r0
      generalize (insat L i).a = z1 at p1 r1
      generalize (insat L i).b = z2 at p2 r2
      generalize (insat L i).c = z3 at p3 r3
      have hneq := neq_ins z0 z1 z2 z3
      clear hbb l1 l2 hmx2
      go_wp2_with fail
      go_quiet (fail)
      go_wp2_with fail
      go_roundw
      case rel => exact ⟨i + 1, m + nq, by omega, by go_num, by unfold Hid; rw [HWr.out]; exact World.drewN_drewN _ _ _⟩
      case measure => simp [intOf]; omega
    · obtain rfl : i = n := by omega
      have hlt2 : ¬ (i : Int) < (i : Int) := by omega
      go_wp2_with fail
      go_ret
      exact ⟨rfl, by rw [HWr.out]; exact HB0.out.trans ((belM W0 m).mono HB0.out.size)⟩

end Go.Proofs.YtmmgkdcojkmlcaaGreatDoor

namespace Go.Proofs.YtmmgkdcojkmlcaaGreatDoor
open Go.RowKit Go.Maps

end Go.Proofs.YtmmgkdcojkmlcaaGreatDoor

namespace Go.Proofs.YtmmgkdcojkmlcaaGreatDoor
open Go.RowKit Go.Maps

end Go.Proofs.YtmmgkdcojkmlcaaGreatDoor

namespace Go.Proofs.YtmmgkdcojkmlcaaGreatDoor
open Go.RowKit Go.Maps

end Go.Proofs.YtmmgkdcojkmlcaaGreatDoor
