/- Package whole, plainly: what was written is read. Package whole: bytes in memory, the reader; must, one. -/
import Derived.Test.YtcajofdmadpmoaaWbO
import Derived.Test.YtcajofdmadpmoaaWgAB
import Derived.Test.YtcajofdmadpmoaaFolL
namespace Go.Proofs.Ytcajofdmadpmoaa
open Go.RowKit

/-- what is written is read back -/
def Fwd {α : Type} (p : Rdr α) (e : α → List Nat) (ok : α → Prop) : Prop := ∀ x r, ok x → p (e x ++ r) = some (x, r)
theorem rdA_fwd : ∀ (y s a : Nat) (r : List Nat), s ≤ 63 → s % 7 = 0 → y * 2 ^ s < 18446744073709551616 → (0 < y ∨ s = 0) → rdA (vby y ++ r) s a = some (a + y * 2 ^ s, r) := fun y => by
  induction y using Nat.strongRecOn with
  | _ y ih =>
    intro s a r hs h7 hy h0
    by_cases h1 : y < 128
    · rw [vby_small h1]
      show rdA (y :: r) s a = _
      have hc : s < 63 ∨ y ≤ 1 := by
        by_cases h63 : s < 63
        · exact .inl h63
        · obtain rfl : s = 63 := by omega
          exact .inr (by omega)
      unfold rdA
      rw [if_pos hc, if_pos h1, if_pos h0, Nat.mod_eq_of_lt h1]
    · rw [vby_big h1]
      show rdA ((y % 128 + 128) :: (vby (y / 128) ++ r)) s a = _
      have hs2 : s < 63 := by
        by_cases h63 : s < 63
        · exact h63
        · obtain rfl : s = 63 := by omega
          omega
      have h128 : 2 ^ (s + 7) = 128 * 2 ^ s := by rw [Nat.pow_add, Nat.mul_comm]
      have hsum : y % 128 * 2 ^ s + y / 128 * 2 ^ (s + 7) = y * 2 ^ s := by
        rw [h128, ← Nat.mul_assoc, ← Nat.add_mul]
        congr 1
        omega
      unfold rdA
      rw [if_pos (Or.inl hs2), if_neg (by omega)]
      rw [ih (y / 128) (by omega) (s + 7) _ r (by omega) (by omega) (by omega) (.inl (by omega))]
      rw [show (y % 128 + 128) % 128 = y % 128 from by omega, Nat.add_assoc, hsum]
def Z64 (n : Int) : Prop := -9223372036854775808 ≤ n ∧ n < 9223372036854775808
theorem sgz_uzz {n : Int} (h : Z64 n) : sgz (uzz n) = n := by
  unfold Z64 at h
  unfold sgz uzz
  split <;> omega
theorem rdI_fwd : Fwd rdI vbI Z64 := fun n r h => by
  unfold rdI vbI
  rw [rdA_fwd (uzz n) 0 0 r (by omega) rfl (by have := uzz_lt n; omega) (.inr rfl)]
  simp only [Nat.pow_zero, Nat.mul_one, Nat.zero_add, sgz_uzz h]
theorem rdC_fwd {n : Nat} {r : List Nat} (h : n ≤ r.length) (h2 : n < 9223372036854775808) : rdC (vby n ++ r) = some (n, r) := by
  have e : vby n ++ r = vbI (n : Int) ++ r := by unfold vbI; rw [uzz_nat (by omega)]
  unfold rdC
  rw [e, rdI_fwd (n : Int) r (by unfold Z64; omega)]
  show (if 0 ≤ (n : Int) ∧ (n : Int) ≤ (r.length : Int) then some ((n : Int).toNat, r) else none) = _
  rw [if_pos ⟨by omega, by omega⟩, Int.toNat_natCast]
theorem rdN_fwd {α : Type} {p : Rdr α} {e : α → List Nat} {ok : α → Prop} (hp : Fwd p e ok) (l : List α) (hl : ∀ x, x ∈ l → ok x) (r : List Nat) : ∀ k, k ≤ l.length → rdN p ((l.map e).flatten ++ r) k = some (l.take k, ((l.drop k).map e).flatten ++ r)
  | 0, _ => by simp [rdN]
  | k + 1, hk => by
    have hk2 : k < l.length := by omega
    have e1 : l.drop k = l[k] :: l.drop (k + 1) := List.drop_eq_getElem_cons hk2
    simp only [rdN, rdN_fwd hp l hl r k (by omega)]
    rw [e1, List.map_cons, List.flatten_cons, List.append_assoc, hp _ _ (hl _ (List.getElem_mem hk2))]
    simp only [List.take_add_one, List.getElem?_eq_getElem hk2]
    rfl
theorem rdL_fwd {α : Type} {p : Rdr α} {e : α → List Nat} {ok : α → Prop} (hp : Fwd p e ok) (he : ∀ x, 1 ≤ (e x).length) : Fwd (rdL p) (fun l => vby l.length ++ (l.map e).flatten) (fun l => (∀ x, x ∈ l → ok x) ∧ l.length < 9223372036854775808) := fun l r h => by
  unfold rdL
  have hg := flat_ge he l []
  rw [List.nil_append] at hg
  rw [List.append_assoc, rdC_fwd (by rw [List.length_append]; omega) h.2]
  show rdN p ((l.map e).flatten ++ r) l.length = _
  rw [rdN_fwd hp l h.1 r l.length (Nat.le_refl _)]
  simp
theorem rdT_fwd {α β : Type} {p : Rdr α} {q : Rdr β} {e : α → List Nat} {f : β → List Nat} {o1 : α → Prop} {o2 : β → Prop} (hp : Fwd p e o1) (hq : Fwd q f o2) : Fwd (rdT p q) (fun x => e x.1 ++ f x.2) (fun x => o1 x.1 ∧ o2 x.2) := fun x r h => by
  unfold rdT
  rw [List.append_assoc, hp x.1 _ h.1]
  show (match q (f x.2 ++ r) with | some (y, r') => some ((x.1, y), r') | none => none) = _
  rw [hq x.2 r h.2]
def okL (l : List Int) : Prop := (∀ x, x ∈ l → Z64 x) ∧ l.length < 9223372036854775808
def okR (l : List (List Int)) : Prop := (∀ x, x ∈ l → okL x) ∧ l.length < 9223372036854775808
def okO (o : OnZ) : Prop := okL o.ps ∧ okR o.rows ∧ okR o.nodes
def okOs (l : List OnZ) : Prop := (∀ x, x ∈ l → okO x) ∧ l.length < 9223372036854775808
def okV (v : VoZ) : Prop := okL v.main ∧ okL v.aux ∧ Z64 v.tries ∧ okR v.roots ∧ okL v.last ∧ okOs v.opens ∧ okO v.rows ∧ okO v.lst
theorem rdL_fwdI : Fwd (rdL rdI) vbL okL := rdL_fwd rdI_fwd vbI_len
theorem rdR_fwd : Fwd (rdL (rdL rdI)) vbR okR := rdL_fwd rdL_fwdI vbL_len
theorem rdO_fwd : Fwd rdO vbO okO := fun o r h => by
  have := rdT_fwd rdL_fwdI (rdT_fwd rdR_fwd rdR_fwd) (o.ps, o.rows, o.nodes) r ⟨h.1, h.2.1, h.2.2⟩
  unfold rdO
  rw [show vbO o ++ r = (vbL o.ps ++ (vbR o.rows ++ vbR o.nodes)) ++ r from by unfold vbO; simp only [List.append_assoc]]
  simp only at this
  rw [this]
theorem rdOs_fwd : Fwd (rdL rdO) vbOs okOs := rdL_fwd rdO_fwd vbO_len
theorem rdV_fwd : Fwd rdV vbV okV := fun v r h => by
  have := rdT_fwd rdL_fwdI (rdT_fwd rdL_fwdI (rdT_fwd rdI_fwd (rdT_fwd rdR_fwd (rdT_fwd rdL_fwdI (rdT_fwd rdOs_fwd (rdT_fwd rdO_fwd rdO_fwd)))))) (v.main, v.aux, v.tries, v.roots, v.last, v.opens, v.rows, v.lst) r ⟨h.1, h.2.1, h.2.2.1, h.2.2.2.1, h.2.2.2.2.1, h.2.2.2.2.2.1, h.2.2.2.2.2.2.1, h.2.2.2.2.2.2.2⟩
  unfold rdV
  rw [show vbV v ++ r = (vbL v.main ++ (vbL v.aux ++ (vbI v.tries ++ (vbR v.roots ++ (vbL v.last ++ (vbOs v.opens ++ (vbO v.rows ++ vbO v.lst))))))) ++ r from by unfold vbV; simp only [List.append_assoc]]
  simp only at this
  rw [this]

end Go.Proofs.Ytcajofdmadpmoaa

namespace Go.Proofs.Ytcajofdmadpmoaa
open Go.RowKit

def bat (bs : List Nat) (k : Nat) : Nat := bs.getD k 0
/-- bytes in memory, below a block -/
structure ByR (N0 : Nat) (w : World) (a : Option Addr) (c : Nat) (bs : List Nat) : Prop where
  row : ∀ k, k < bs.length → ∃ b o, a = some ⟨b, o, none⟩ ∧ b < N0 ∧ w.cell? ⟨b, o + k, none⟩ = some (.int .u8 (bat bs k : Int))
  room : bs.length ≤ c
  nil : a = none → c = 0
theorem ByR.blocks {N0 : Nat} {w w' : World} {a : Option Addr} {c : Nat} {bs : List Nat} (h : ByR N0 w a c bs) (e : ∀ b, b < N0 → w'.heap[b]? = w.heap[b]?) : ByR N0 w' a c bs :=
  ⟨fun k hk => by
    obtain ⟨b, o, h1, h2, h3⟩ := h.row k hk
    exact ⟨b, o, h1, h2, (World.cell?_of_block (w := w) (a := ⟨b, o + k, none⟩) (e b h2)).trans h3⟩, h.room, h.nil⟩
theorem ByR.mono {N0 N1 : Nat} {w : World} {a : Option Addr} {c : Nat} {bs : List Nat} (h : ByR N0 w a c bs) (e : N0 ≤ N1) : ByR N1 w a c bs :=
  ⟨fun k hk => by
    obtain ⟨b, o, h1, h2, h3⟩ := h.row k hk
    exact ⟨b, o, h1, by omega, h3⟩, h.room, h.nil⟩
/-- the reader, with what lies ahead -/
def RdW (w : World) (R : Nat) (bs : List Nat) : Prop := ∃ a c, w.heap[R]? = some (.cells #[.slice a bs.length c] 48 (0, 0)) ∧ ByR R w a c bs ∧ (∀ b, b ∈ bs → b < 256) ∧ bs.length ≤ 1048576
theorem RdW.lt {w : World} {R : Nat} {bs : List Nat} (h : RdW w R bs) : R < w.heap.size := by
  obtain ⟨_, _, h, _⟩ := h
  exact (Array.getElem?_eq_some_iff.1 h).1
theorem RdW.blocks {w w' : World} {R : Nat} {bs : List Nat} (h : RdW w R bs) (e : ∀ b, b ≤ R → w'.heap[b]? = w.heap[b]?) : RdW w' R bs := by
  obtain ⟨a, c, h1, h2, h3⟩ := h
  exact ⟨a, c, (e R (Nat.le_refl _)).trans h1, h2.blocks (fun b hb => e b (by omega)), h3⟩
theorem RdW.below {w w' : World} {R : Nat} {bs : List Nat} (h : RdW w R bs) (e : Below w.heap.size w w') : RdW w' R bs :=
  h.blocks (fun b hb => e.block b (by have := h.lt; omega))
/-- a step of the reader leaves lists -/
theorem rd_ko {w w' : World} {R : Nat} {bs : List Nat} (h : RdW w R bs) (e : w.grownBy w' (some R)) : KO w w' := by
  obtain ⟨a, c, h1, _⟩ := h
  exact KO.oth h1 (by decide) (by decide) (by decide) e.size (fun b hb hr => gb_blk e hb hr)
/-- bytes are none of a voucher -/
def pncW : Ending := .panicked [{ v := .iface 44 (.agg #[]), recovered := false }]

theorem must_yes (w : World) : Calls Try.prog 13 #[.bool true] w fun e w' => e = .returned (.tuple #[]) ∧ w' = w := by
  go_enter Try.func13, Try.ntmps13
  go_wp2_with fail
  go_end0
  exact ⟨rfl, rfl⟩
theorem must_no (w : World) : Calls Try.prog 13 #[.bool false] w fun e w' => e = pncW ∧ w' = w := by
  go_enter Try.func13, Try.ntmps13
  go_wp2_with fail
  exact ⟨rfl, rfl, rfl⟩

set_option maxRecDepth 100000 in
set_option maxHeartbeats 1000000 in
theorem one_none (R : Nat) (w : World) (h : RdW w R []) : Calls Try.prog 21 #[.pointer (some ⟨R, 0, none⟩)] w fun e w' => e = pncW ∧ w' = w := by
  obtain ⟨a, c, h1, _⟩ := h
  have c0 : w.cell? ⟨R, 0, none⟩ = some (.slice a 0 c) := by simp [World.cell?, h1]
  have HM := hid (must_no w)
  clear h1
  go_enter Try.func21, Try.ntmps21
  go_wp2_with fail
  refine HM.out.mono ?_
  rintro e w' ⟨rfl, rfl⟩
  exact ⟨rfl, rfl, rfl⟩
set_option maxRecDepth 100000 in
set_option maxHeartbeats 1000000 in
theorem one_some (R b : Nat) (r : List Nat) (w : World) (h : RdW w R (b :: r)) : Calls Try.prog 21 #[.pointer (some ⟨R, 0, none⟩)] w fun e w' => e = .returned (.int .u8 (b : Int)) ∧ RdW w' R r ∧ w.grownBy w' (some R) := by
  obtain ⟨a, c, h1, hB, hl, hs⟩ := h
  obtain ⟨B, o, rfl, hb2, hb3⟩ := hB.row 0 (by simp)
  rw [Nat.add_zero] at hb3
  have hb4 : w.cell? ⟨B, o, none⟩ = some (.int .u8 (b : Int)) := hb3
  obtain ⟨n, hn⟩ : ∃ n, n = r.length := ⟨_, rfl⟩
  have hroom : n + 1 ≤ c := by rw [hn]; exact hB.room
  have c0 : w.cell? ⟨R, 0, none⟩ = some (.slice (some ⟨B, o, none⟩) (n + 1) c) := by rw [hn]; simp [World.cell?, h1]
  have f0 : w.frozen? ⟨R, 0, none⟩ = false := by simp [World.frozen?, h1]
  have HM := hid (must_yes w)
  have HE : Hid (∀ A1 : Option Addr, (c = 1 → A1 = some ⟨B, o, none⟩) → (¬ c = 1 → A1 = some ⟨B, o + 1, none⟩) → RdW (w.setCell ⟨R, 0, none⟩ (.slice A1 n (c - 1))) R r ∧ w.grownBy (w.setCell ⟨R, 0, none⟩ (.slice A1 n (c - 1))) (some R)) := fun A1 hy hz => by
    refine ⟨⟨A1, c - 1, ?_, ⟨fun k hk => ?_, by omega, fun e => ?_⟩, fun x hx => hl x (by simp [hx]), by simp at hs; omega⟩, gb_setCell (gb_refl _ _) 0 _⟩
    · rw [← hn]
      have e1 : w.heap[R]? = some (.cells #[.slice (some ⟨B, o, none⟩) (n + 1) c] 48 (0, 0)) := by rw [h1, hn]; rfl
      simp [World.setCell, Array.getElem?_modify, e1]
    · obtain ⟨B', o', e1, e2, e3⟩ := hB.row (k + 1) (by simp; omega)
      injection e1 with e1
      injection e1 with e4 e5
      subst e4 e5
      refine ⟨B, o + 1, hz (by omega), e2, ?_⟩
      rw [show o + 1 + k = o + (k + 1) from by omega]
      exact (World.cell?_of_block (w := w) (a := ⟨B, o + (k + 1), none⟩) (Below.heap_setCell _ _ _ _ (by show B ≠ R; omega))).trans e3
    · by_cases hc : c = 1
      · rw [hy hc] at e; cases e
      · rw [hz hc] at e; cases e
  have hc1 : (1 : Int) ≤ (n : Int) + 1 := by omega
  have hc2 : (1 : Int) ≤ (c : Int) := by omega
  have hgt : (0 : Int) < (n : Int) + 1 := by omega
  clear h1 hB hl hs hb3 hn
  go_enter Try.func21, Try.ntmps21
  go_wp2_with fail
  refine HM.out.mono ?_
  rintro e w' ⟨rfl, hw⟩
  have hwx := hw.symm
  subst hwx
  clear hw HM
  by_cases hc : c = 1
  · subst hc
    obtain rfl : n = 0 := by omega
    have h := HE.out _ (fun _ => rfl) (fun e => absurd rfl e)
    have HX := hid h
    clear h HE
    go_wp2_with fail
    go_ret
    exact ⟨rfl, HX.out.1, HX.out.2⟩
  · go_wp2_with fail
    go_ret
    exact ⟨rfl, (HE.out _ (fun e => absurd e hc) (fun _ => rfl)).1, (HE.out _ (fun e => absurd e hc) (fun _ => rfl)).2⟩

end Go.Proofs.Ytcajofdmadpmoaa
