/- attestref6.Walk: the walk. Package machine: Walk; the document's, where the code is wrong. MachineWalks: the walk. -/
import Derived.Test.YtdpdmgmeieijaaaGreatDoorSndAJ
import Derived.Test.YtdpdmgmeieijaaaGreatDoorSndAL
import Derived.Test.YtdpdmgmeieijaaaGreatDoorFld
namespace Go.Proofs.YtdpdmgmeieijaaaGreatDoor
open Go.RowKit

end Go.Proofs.YtdpdmgmeieijaaaGreatDoor

namespace Go.Proofs.YtdpdmgmeieijaaaGreatDoor
open Go.RowKit Go.Maps

/-- what Walk gives -/
def WlR (p : Nat) (size : Int) (L : List InsZ) (limit : Int) (w : World) (e : Ending) (w' : World) : Prop := Below w.heap.size w w' ∧
  if fz6 (p : Int) size L.length limit ≠ 0 then e = .returned (.tuple #[.slice none 0 0, errV (fz6 (p : Int) size L.length limit)])
  else match mwalk p size L limit.toNat with
    | .bad z => e = .returned (.tuple #[.slice none 0 0, errV z])
    | .good l _ => ∃ v, e = .returned (.tuple #[v, .nilIface]) ∧ StR w.heap.size w' v l

theorem StR.mono {base base' : Nat} {w : World} {v : Value} {l : List (List Int)} (h : StR base w v l) (e : base' ≤ base) : StR base' w v l := by
  refine ⟨h.1, ?_⟩
  rcases h.2 with hn | ⟨g, cap, cur, h1, hb, rest⟩
  · exact .inl hn
  · exact .inr ⟨g, cap, cur, h1, Nat.le_trans e hb, rest⟩
theorem wdR_wlR {p : Nat} {size : Int} {L : List InsZ} {limit : Int} {w W W' : World} {e : Ending} (hb : Below w.heap.size w W) (h : WdR p size L limit W e W') : ∃ v1 v2 v3, e = .returned (.tuple #[v1, v2, v3]) ∧ WlR p size L limit w (.returned (.tuple #[v1, v3])) W' := by
  obtain ⟨h1, h2⟩ := h
  have hbb := hb.trans (h1.mono hb.size)
  by_cases hz : fz6 (p : Int) size L.length limit ≠ 0
  · rw [if_pos hz] at h2
    exact ⟨_, _, _, h2, hbb, by rw [if_pos hz]⟩
  · rw [if_neg hz] at h2
    cases hX : mwalk p size L limit.toNat with
    | bad z =>
      rw [hX] at h2
      exact ⟨_, _, _, h2, hbb, by rw [if_neg hz, hX]⟩
    | good l cs =>
      rw [hX] at h2
      obtain ⟨v, B, h3, h4, _⟩ := h2
      exact ⟨_, _, _, h3, hbb, by rw [if_neg hz, hX]; exact ⟨v, rfl, h4.mono hb.size⟩⟩

set_option maxRecDepth 100000 in
set_option maxHeartbeats 1000000 in
theorem pwalk_of (p b : Nat) (size limit : Int) (aL : Option Addr) (cL : Nat) (L : List InsZ) (w : World) (h : ∀ W, Below w.heap.size w W → Calls Tryz.prog 21 #[.pointer (some ⟨b, 0, none⟩), .agg #[.int .i64 size, .slice aL L.length cL], .int .i64 limit] W (WdR p size L limit W)) :
    Calls Tryz.prog 24 #[.pointer (some ⟨b, 0, none⟩), .agg #[.int .i64 size, .slice aL L.length cL], .int .i64 limit] w (WlR p size L limit w) := by
  have HH := hid h
  obtain ⟨nL, hnL⟩ : ∃ nL, nL = L.length := ⟨_, rfl⟩
  rw [← hnL] at HH ⊢
  clear h hnL
  go_enter Tryz.func24, Tryz.ntmps24
  go_wp2_with fail
  refine (HH.out _ ((Below.refl _ _).alloc (Nat.le_refl _) _)).mono ?_
  rintro e w1 hr1
  obtain ⟨v1, v2, v3, rfl, hE⟩ := wdR_wlR ((Below.refl w.heap.size w).alloc (Nat.le_refl _) _) hr1
  have HE := hid hE
  clear hr1 hE HH
  go_wp2_with fail
  go_ret2
  exact HE.out
/-- whatever the code and the limit -/
theorem pwalked_any (p b : Nat) (size limit : Int) (aL : Option Addr) (cL : Nat) (L : List InsZ) (w : World) (h3 : 3 ≤ p) (h4 : p ≤ 2147483647) (hpr : Num.Prime p) (hp : w.cell? ⟨b, 0, none⟩ = some (.int .i64 p)) (hn : L.length ≤ 281474976710656) (hL : LstI w.heap.size w aL cL L) (hIB : InsB L) :
    Calls Tryz.prog 21 #[.pointer (some ⟨b, 0, none⟩), .agg #[.int .i64 size, .slice aL L.length cL], .int .i64 limit] w (WdR p size L limit w) := by
  by_cases hz : fz6 (p : Int) size L.length limit = 0
  · have hl : 0 ≤ limit := by
      unfold fz6 at hz
      split at hz
      · omega
      · split at hz <;> omega
    obtain ⟨m, rfl⟩ := Int.eq_ofNat_of_zero_le hl
    exact pwalked_good p b size m aL cL L w h3 h4 hpr hp hz hL hIB
  · exact pwalked_bad p b size limit aL cL L w hp hn hz
theorem pwalk_any (p b : Nat) (size limit : Int) (aL : Option Addr) (cL : Nat) (L : List InsZ) (w : World) (h3 : 3 ≤ p) (h4 : p ≤ 2147483647) (hpr : Num.Prime p) (hp : w.cell? ⟨b, 0, none⟩ = some (.int .i64 p)) (hn : L.length ≤ 281474976710656) (hL : LstI w.heap.size w aL cL L) (hIB : InsB L) :
    Calls Tryz.prog 24 #[.pointer (some ⟨b, 0, none⟩), .agg #[.int .i64 size, .slice aL L.length cL], .int .i64 limit] w (WlR p size L limit w) :=
  pwalk_of p b size limit aL cL L w (fun W hb => pwalked_any p b size limit aL cL L W h3 h4 hpr ((hb.cell (p := ⟨b, 0, none⟩) (World.block_lt_of_cell? _ _ hp)).trans hp) hn ((hL.below hb).mono hb.size) hIB)

end Go.Proofs.YtdpdmgmeieijaaaGreatDoor

namespace Go.Proofs.YtdpdmgmeieijaaaGreatDoor
open Go.RowKit Go.Maps

theorem stvs_int : ∀ (l : List (List Int)) (m : Nat), m < (stvs l).length → ∃ x, (stvs l)[m]? = some (.int .i64 x) := fun l m hm => by
  have h : ∀ v, v ∈ stvs l → ∃ x, v = .int .i64 x := fun v hv => by
    unfold stvs at hv
    obtain ⟨y, _, h2⟩ := List.mem_flatMap.1 hv
    obtain ⟨x, _, rfl⟩ := List.mem_map.1 h2
    exact ⟨x, rfl⟩
  obtain ⟨x, hx⟩ := h _ (List.getElem_mem hm)
  exact ⟨x, by rw [List.getElem?_eq_getElem hm, hx]⟩
/-- a row of steps, cell by cell -/
theorem StR.cells {base : Nat} {w : World} {v : Value} {l : List (List Int)} (h : StR base w v l) (h0 : 0 < l.length) : ∃ g cap, v = .slice (some ⟨g, 0, none⟩) l.length cap ∧ l.length ≤ maxLen ∧ ∀ m x, (stvs l)[m]? = some (.int .i64 x) → w.cell? ⟨g, m, none⟩ = some (.int .i64 x) := by
  have h' := h
  rcases h.2 with ⟨_, hn⟩ | ⟨g, cap, cur, rfl, hb, hg, hn, hm, hs, ht⟩
  · omega
  · refine ⟨g, cap, rfl, by omega, fun m x hx => ?_⟩
    have := World.ownsRow.cells h' (g := g) rfl m _ hx
    have hadd : (⟨g, 0, none⟩ : Addr).add m = ⟨g, 0 + m, none⟩ := by unfold Addr.add; split <;> simp_all
    rw [hadd, Nat.zero_add] at this
    exact this
theorem StR.form {base : Nat} {w : World} {v : Value} {l : List (List Int)} (h : StR base w v l) : ∃ a c, v = .slice a l.length c := by
  rcases h.2 with ⟨rfl, h0⟩ | ⟨g, cap, cur, rfl, _⟩
  · exact ⟨none, 0, by rw [h0]⟩
  · exact ⟨_, _, rfl⟩

end Go.Proofs.YtdpdmgmeieijaaaGreatDoor
