/- Package machine: Walk; the document's, where the code is wrong. MachineWalks: the walk. -/
import Derived.Test.YthemehdcakimgaiMahO
import Derived.Test.YthemehdcakimgaiMacL
import Derived.Test.YthemehdcakimgaiFld
namespace Go.Proofs.Ythemehdcakimgai
open Go.RowKit Go.Maps

/-- what Walk gives -/
def WlR (p : Nat) (size : Int) (L : List InsZ) (limit : Int) (w : World) (e : Ending) (w' : World) : Prop := Below w.heap.size w w' ∧
  if fz6 (p : Int) size L.length limit ≠ 0 then e = .returned (.tuple #[.slice none 0 0, errV (fz6 (p : Int) size L.length limit)])
  else match mwalk p size L limit.toNat with
    | .bad z => e = .returned (.tuple #[.slice none 0 0, errV z])
    | .good l _ => ∃ v, e = .returned (.tuple #[v, .nilIface]) ∧ StR w.heap.size w' v l

theorem StR.mono {base base' : Nat} {w : World} {v : Value} {l : List (List Int)} (h : StR base w v l) (e : base' ≤ base) : StR base' w v l := by
  refine ⟨h.1, ?_⟩
  rcases h.2 with hn | ⟨g, cap, cur, h1, hb, rest⟩
  · exact .inl hn
  · exact .inr ⟨g, cap, cur, h1, Nat.le_trans e hb, rest⟩
theorem wdR_wlR {p : Nat} {size : Int} {L : List InsZ} {limit : Int} {w W W' : World} {e : Ending} (hb : Below w.heap.size w W) (h : WdR p size L limit W e W') : ∃ v1 v2 v3, e = .returned (.tuple #[v1, v2, v3]) ∧ WlR p size L limit w (.returned (.tuple #[v1, v3])) W' := by
  obtain ⟨h1, h2⟩ := h
  have hbb := hb.trans (h1.mono hb.size)
  by_cases hz : fz6 (p : Int) size L.length limit ≠ 0
  · rw [if_pos hz] at h2
    exact ⟨_, _, _, h2, hbb, by rw [if_pos hz]⟩
  · rw [if_neg hz] at h2
    cases hX : mwalk p size L limit.toNat with
    | bad z =>
      rw [hX] at h2
      exact ⟨_, _, _, h2, hbb, by rw [if_neg hz, hX]⟩
    | good l cs =>
      rw [hX] at h2
      obtain ⟨v, B, h3, h4, _⟩ := h2
      exact ⟨_, _, _, h3, hbb, by rw [if_neg hz, hX]; exact ⟨v, rfl, h4.mono hb.size⟩⟩

set_option maxRecDepth 100000 in
set_option maxHeartbeats 1000000 in
theorem pwalk_of (p b : Nat) (size limit : Int) (aL : Option Addr) (cL : Nat) (L : List InsZ) (w : World) (h : ∀ W, Below w.heap.size w W → Calls Try.prog 10 #[.pointer (some ⟨b, 0, none⟩), .agg #[.int .i64 size, .slice aL L.length cL], .int .i64 limit] W (WdR p size L limit W)) :
    Calls Try.prog 7 #[.pointer (some ⟨b, 0, none⟩), .agg #[.int .i64 size, .slice aL L.length cL], .int .i64 limit] w (WlR p size L limit w) := by
  have HH := hid h
  obtain ⟨nL, hnL⟩ : ∃ nL, nL = L.length := ⟨_, rfl⟩
  rw [← hnL] at HH ⊢
  clear h hnL
  go_enter Try.func7, Try.ntmps7
  go_wp2_with fail
  refine (HH.out _ ((Below.refl _ _).alloc (Nat.le_refl _) _)).mono ?_
  rintro e w1 hr1
  obtain ⟨v1, v2, v3, rfl, hE⟩ := wdR_wlR ((Below.refl w.heap.size w).alloc (Nat.le_refl _) _) hr1
  have HE := hid hE
  clear hr1 hE HH
  go_wp2_with fail
  go_ret2
  exact HE.out
/-- whatever the code and the limit -/
theorem pwalked_any (p b : Nat) (size limit : Int) (aL : Option Addr) (cL : Nat) (L : List InsZ) (w : World) (h3 : 3 ≤ p) (h4 : p ≤ 2147483647) (hpr : Num.Prime p) (hp : w.cell? ⟨b, 0, none⟩ = some (.int .i64 p)) (hn : L.length ≤ 281474976710656) (hL : LstI w.heap.size w aL cL L) (hIB : InsB L) :
    Calls Try.prog 10 #[.pointer (some ⟨b, 0, none⟩), .agg #[.int .i64 size, .slice aL L.length cL], .int .i64 limit] w (WdR p size L limit w) := by
  by_cases hz : fz6 (p : Int) size L.length limit = 0
  · have hl : 0 ≤ limit := by
      unfold fz6 at hz
      split at hz
      · omega
      · split at hz <;> omega
    obtain ⟨m, rfl⟩ := Int.eq_ofNat_of_zero_le hl
    exact pwalked_good p b size m aL cL L w h3 h4 hpr hp hz hL hIB
  · exact pwalked_bad p b size limit aL cL L w hp hn hz
theorem pwalk_any (p b : Nat) (size limit : Int) (aL : Option Addr) (cL : Nat) (L : List InsZ) (w : World) (h3 : 3 ≤ p) (h4 : p ≤ 2147483647) (hpr : Num.Prime p) (hp : w.cell? ⟨b, 0, none⟩ = some (.int .i64 p)) (hn : L.length ≤ 281474976710656) (hL : LstI w.heap.size w aL cL L) (hIB : InsB L) :
    Calls Try.prog 7 #[.pointer (some ⟨b, 0, none⟩), .agg #[.int .i64 size, .slice aL L.length cL], .int .i64 limit] w (WlR p size L limit w) :=
  pwalk_of p b size limit aL cL L w (fun W hb => pwalked_any p b size limit aL cL L W h3 h4 hpr ((hb.cell (p := ⟨b, 0, none⟩) (World.block_lt_of_cell? _ _ hp)).trans hp) hn ((hL.below hb).mono hb.size) hIB)

end Go.Proofs.Ythemehdcakimgai

namespace Go.Proofs.Ythemehdcakimgai
open Go.RowKit Go.Maps

theorem stvs_int : ∀ (l : List (List Int)) (m : Nat), m < (stvs l).length → ∃ x, (stvs l)[m]? = some (.int .i64 x) := fun l m hm => by
  have h : ∀ v, v ∈ stvs l → ∃ x, v = .int .i64 x := fun v hv => by
    unfold stvs at hv
    obtain ⟨y, _, h2⟩ := List.mem_flatMap.1 hv
    obtain ⟨x, _, rfl⟩ := List.mem_map.1 h2
    exact ⟨x, rfl⟩
  obtain ⟨x, hx⟩ := h _ (List.getElem_mem hm)
  exact ⟨x, by rw [List.getElem?_eq_getElem hm, hx]⟩
/-- a row of steps, cell by cell -/
theorem StR.cells {base : Nat} {w : World} {v : Value} {l : List (List Int)} (h : StR base w v l) (h0 : 0 < l.length) : ∃ g cap, v = .slice (some ⟨g, 0, none⟩) l.length cap ∧ l.length ≤ maxLen ∧ ∀ m x, (stvs l)[m]? = some (.int .i64 x) → w.cell? ⟨g, m, none⟩ = some (.int .i64 x) := by
  have h' := h
  rcases h.2 with ⟨_, hn⟩ | ⟨g, cap, cur, rfl, hb, hg, hn, hm, hs, ht⟩
  · omega
  · refine ⟨g, cap, rfl, by omega, fun m x hx => ?_⟩
    have := World.ownsRow.cells h' (g := g) rfl m _ hx
    have hadd : (⟨g, 0, none⟩ : Addr).add m = ⟨g, 0 + m, none⟩ := by unfold Addr.add; split <;> simp_all
    rw [hadd, Nat.zero_add] at this
    exact this
theorem StR.form {base : Nat} {w : World} {v : Value} {l : List (List Int)} (h : StR base w v l) : ∃ a c, v = .slice a l.length c := by
  rcases h.2 with ⟨rfl, h0⟩ | ⟨g, cap, cur, rfl, _⟩
  · exact ⟨none, 0, by rw [h0]⟩
  · exact ⟨_, _, rfl⟩

theorem eqI_runM (n : Nat) (a : Int) (w : World) : (Op.equalIn (n + 1) 3 (.int .i64 a) (.int .i64 a)).run Try.prog w = .ok true w := by
  simp [Op.equalIn, run_underlying Try.underlying3, Result.andThen]
theorem part_runM (cs : Array Value) (i : Nat) (v : Value) (h : cs[i]? = some v) (w : World) : (part 3 cs i).run Try.prog w = .ok v w := by
  simp [part, Try.isAgg3, h, Result.andThen]
theorem eq3_runM (n : Nat) (a0 a1 a2 : Int) (w : World) : (Op.equalIn (n + 1 + 1) 38 (.agg #[.int .i64 a0, .int .i64 a1, .int .i64 a2]) (.agg #[.int .i64 a0, .int .i64 a1, .int .i64 a2])).run Try.prog w = .ok true w := by
  have e : ∀ (x : Int), (Op.equalIn (n + 1) 3 (.int .i64 x) (.int .i64 x)).run Try.prog w = .ok true w := fun x => eqI_runM n x w
  unfold Op.equalIn
  simp only [Sem.run_bind, run_underlying Try.underlying38, Result.andThen_ok, Try.sizeOf3]
  have p0 : ∀ (x0 x1 x2 : Value), (part 3 #[x0, x1, x2] (0 * 1)).run Try.prog w = .ok x0 w := fun x0 x1 x2 => part_runM _ _ _ rfl w
  have p1 : ∀ (x0 x1 x2 : Value), (part 3 #[x0, x1, x2] (1 * 1)).run Try.prog w = .ok x1 w := fun x0 x1 x2 => part_runM _ _ _ rfl w
  have p2 : ∀ (x0 x1 x2 : Value), (part 3 #[x0, x1, x2] (2 * 1)).run Try.prog w = .ok x2 w := fun x0 x1 x2 => part_runM _ _ _ rfl w
  rw [Std.Legacy.Range.forIn_eq_forIn_range']
  show ((Sem.run Try.prog (forIn [0, 1, 2] _ _) w).andThen _) = _
  simp only [List.forIn_cons, List.forIn_nil, Sem.run_bind, p0, e, Result.andThen_ok]
  simp [p1, p2, e, Result.andThen]
theorem neq_step (y0 y1 y2 y3 y4 y5 y6 y7 y8 y9 : Int) (w : World) : (binOp BinOp.neq 40 (.agg #[.int .i64 y0, .int .i64 y1, .int .i64 y2, .int .i64 y3, .int .i64 y4, .int .i64 y5, .int .i64 y6, .int .i64 y7, .int .i64 y8, .int .i64 y9]) (.agg #[.int .i64 y0, .int .i64 y1, .int .i64 y2, .int .i64 y3, .int .i64 y4, .int .i64 y5, .int .i64 y6, .int .i64 y7, .int .i64 y8, .int .i64 y9])).run Try.prog w = .ok (.bool false) w := by
  have e3 : ∀ (x y z : Int), (Op.equalIn 9999 38 (.agg #[.int .i64 x, .int .i64 y, .int .i64 z]) (.agg #[.int .i64 x, .int .i64 y, .int .i64 z])).run Try.prog w = .ok true w := fun x y z => eq3_runM 9997 x y z w
  simp [go_sem, e3]

end Go.Proofs.Ythemehdcakimgai
