/- Package source: Eval. Package source: Parse and Eval, as laws ask for them. -/
import Derived.Test.YthemehdcakimgaiGreatDoorSsW
import Derived.Laws.ResultCell
namespace Go.Proofs.YthemehdcakimgaiGreatDoor
open Go.RowKit

/-- how Eval ends -/
def ElR (n m : Nat) (fuel : Int) (w : World) (r : ER Int) (e : Ending) (w' : World) : Prop := Below w.heap.size w w' ∧
  if n ≠ m then e = .returned (.tuple #[.agg #[.int .i64 0, .int .i64 0], .iface 44 (.int .i64 2)])
  else if fuel < 0 ∨ 16384 < fuel then e = .returned (.tuple #[.agg #[.int .i64 0, .int .i64 0], .iface 44 (.int .i64 3)])
  else match r with
  | .val x k => e = .returned (.tuple #[.agg #[.int .i64 x, .int .i64 (k : Int)], .nilIface])
  | .stop er => e = .returned (.tuple #[.agg #[.int .i64 0, .int .i64 0], .iface 44 (.int .i64 (er : Int))])
  | .out => False

end Go.Proofs.YthemehdcakimgaiGreatDoor

namespace Go.Proofs.YthemehdcakimgaiGreatDoor
open Go.RowKit

/-- a text's functions, or its first fault -/
def prs (T : ByteArray) : Res (List FnT) := pRes (by' T) (4 * T.size + 1)
theorem prs_out (T : ByteArray) : prs T ≠ .out := by
  have h := pProg_fw (by' T) (4 * T.size + 1) [] 0 (Nat.zero_le _) (by rw [by_len]; omega)
  unfold prs pRes
  cases hq : pProg (by' T) (4 * T.size + 1) [] 0 with
  | out => rw [hq] at h; exact h.elim
  | bad e a => exact fun h => (nomatch h)
  | ok fs j =>
    cases hc : ckn fs (by' T).length with
    | none => simp [hc]
    | some y => simp [hc]
theorem parse_is (T : ByteArray) (w : World) (hTm : T.size ≤ 281474976710656) (hEv : EvW w) : Calls Tryz.prog 4 #[.string T] w (PaR w T.size (prs T)) :=
  parse_any T (4 * T.size + 1) w hTm hEv (prs T) rfl (prs_out T)
theorem prs_ok {T : ByteArray} {fs : List FnT} {j : Nat} (h : prs T = .ok fs j) : FsOk fs ∧ ∃ i g, fs[i]? = some g ∧ g.name = mainW ∧ nmM fs fs.length mainW = some ((i : Nat) : Int) := by
  unfold prs pRes at h
  cases hq : pProg (by' T) (4 * T.size + 1) [] 0 with
  | out => rw [hq] at h; cases h
  | bad e a => rw [hq] at h; cases h
  | ok gs k =>
    rw [hq] at h
    cases hc : ckn gs (by' T).length with
    | some y => simp [hc] at h
    | none =>
      simp [hc] at h
      obtain ⟨rfl, rfl⟩ := h
      obtain ⟨h1, h2⟩ := ckn_none hc
      refine ⟨h1, ?_⟩
      rw [List.any_eq_true] at h2
      obtain ⟨g, hg, hn⟩ := h2
      obtain ⟨i, hi⟩ := List.getElem?_of_mem hg
      have hn' : g.name = mainW := by simpa using hn
      exact ⟨i, g, hi, hn', by rw [← hn']; exact h1.num hi⟩
theorem mnS_names (p : Nat) (more : List (List UInt8 × Nat)) (args : List Int) : ∀ j, j ≤ more.length → (mnS p more args j).map (·.1) = ((more.take j).map (·.1)).reverse
  | 0, _ => by simp [mnS]
  | j + 1, h => by
    have hj : j < more.length := by omega
    rw [mnS, List.getElem?_eq_getElem hj, List.take_add_one, List.getElem?_eq_getElem hj]
    show more[j].1 :: (mnS p more args j).map (·.1) = _
    rw [List.map_append, List.reverse_append, mnS_names p more args j (by omega)]
    rfl
/-- what a program comes to -/
def evE (p : Nat) (fs : List FnT) (g : FnT) (args : List Int) (fuel : Int) (R : Nat) : ER Int := evl p fs fuel.toNat R g.body (mnS p g.more args g.more.length) 0
theorem evE_out (p : Nat) (fs : List FnT) (i : Nat) (g : FnT) (args : List Int) (fuel : Int) (R : Nat) (hR : fuel.toNat + 1 ≤ R) (h3 : 3 ≤ p) (hF : FsOk fs) (hW : ∀ g, g ∈ fs → FW g) (hgi : fs[i]? = some g) : evE p fs g args fuel R ≠ .out := by
  refine evl_out p fs fuel.toNat h3 hF hW _ _ _ 0 (hW g (List.mem_of_getElem? hgi)).2.2.2 (mnS_bd p _ _ h3 _) ?_ (Nat.zero_le _) (by omega)
  rw [mnS_names p g.more args _ (Nat.le_refl _), List.take_length]
  exact ckw_none (hF i g hgi).2
end Go.Proofs.YthemehdcakimgaiGreatDoor
