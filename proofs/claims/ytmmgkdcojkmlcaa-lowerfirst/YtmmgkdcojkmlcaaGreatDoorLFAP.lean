/- A key taken out of a map to numbers; a row of four cells; where tell stands. Package lower: the cases of tell, but call and if. Package lower: tell: let, need, a sign between two parts. Package lower: tellIf. -/
import Derived.Test.YtmmgkdcojkmlcaaGreatDoorLFAO
namespace Go.Proofs.YtmmgkdcojkmlcaaGreatDoor
open Go.RowKit Go.Maps

def delI {κ : Type} [DecidableEq κ] (M : κ → Option Int) (x : κ) : κ → Option Int := fun y => if y = x then none else M y
theorem MapI.delete {κ : Type} {k t : TypeId} {enc : κ → Value} {ok : κ → Prop} {w : World} {B : Nat} {M : κ → Option Int} [DecidableEq κ] (K : KI k t enc ok) (h : MapI enc ok w B M) {x : κ} (hx : ok x) (ty : TypeId) :
    ∃ w', (Builtin.delete_ #[t, k] ty #[.map (some B), enc x]).run Tryz.prog w = .ok (.tuple #[]) w' ∧ MapI enc ok w' B (delI M x) ∧ w.grownBy w' (some B) := by
  obtain ⟨es, clock, hB, h1, h2, h3⟩ := h
  obtain ⟨l, hl⟩ := K.has x hx
  have hck := K.keyed.check w es.isEmpty hl
  have hgr : ∀ o : Obj, w.grownBy { w with heap := w.heap.setIfInBounds B o } (some B) := fun o => ⟨rfl, rfl, rfl, by simp, fun k _ hk => (MapKept.heap_set hB).2 k (fun e => hk (by rw [e]))⟩
  rcases MapI.find (w := w) K hx h1 h2 with ⟨hM, hf, hne⟩ | ⟨d0, j, e, hM, hf, hj, hk⟩
  · refine ⟨_, by simp [Builtin.delete_, run_underlying K.und, Result.andThen, MapKept.run_getObj_map hB, hck, hf, MapKept.run_setObj_map _ hB]; rfl, ⟨_, _, (MapKept.heap_set hB).1, ?_, ?_, h3⟩, hgr _⟩
    · intro e he
      obtain ⟨y, n, hk, hy, hM', hv⟩ := h1 e he
      exact ⟨y, n, hk, hy, by unfold delI; rw [if_neg (fun hc => by rw [hc, hM] at hM'; cases hM')]; exact hM', hv⟩
    · intro y n hM'
      unfold delI at hM'
      by_cases hc : y = x
      · rw [if_pos hc] at hM'; cases hM'
      · rw [if_neg hc] at hM'; exact h2 y n hM'
  · have hjl : j < es.toList.length := (List.getElem?_eq_some_iff.1 hj).1
    have hjs : j < es.size := by simpa using hjl
    have hsub : (es.eraseIdxIfInBounds j).toList = es.toList.eraseIdx j := by
      unfold Array.eraseIdxIfInBounds
      rw [dif_pos hjs]
      simp
    have hsp : es.toList = es.toList.take j ++ e :: es.toList.drop (j + 1) := by
      have hee : es.toList[j] = e := (List.getElem?_eq_some_iff.1 hj).2
      rw [← hee, List.getElem_cons_drop, List.take_append_drop]
    have hse : es.toList.eraseIdx j = es.toList.take j ++ es.toList.drop (j + 1) := List.eraseIdx_eq_take_drop_succ _ _
    have hp := h3
    rw [hsp, List.pairwise_append] at hp
    have hne : ∀ e' ∈ es.toList.eraseIdx j, e'.key ≠ enc x := fun e' he' => by
      rw [hse, List.mem_append] at he'
      rw [← hk]
      rcases he' with he' | he'
      · exact hp.2.2 e' he' e (List.mem_cons_self ..)
      · exact fun er => (List.pairwise_cons.1 hp.2.1).1 e' he' er.symm
    refine ⟨_, by simp [Builtin.delete_, run_underlying K.und, Result.andThen, MapKept.run_getObj_map hB, hck, hf, MapKept.run_setObj_map _ hB]; rfl, ⟨_, _, (MapKept.heap_set hB).1, ?_, ?_, ?_⟩, hgr _⟩
    · intro e' he'
      rw [hsub] at he'
      obtain ⟨y, n, hk', hy, hM', hv⟩ := h1 e' ((List.eraseIdx_sublist _ _).subset he')
      exact ⟨y, n, hk', hy, by unfold delI; rw [if_neg (fun hc => hne e' he' (by rw [hk', hc]))]; exact hM', hv⟩
    · intro y n hM'
      unfold delI at hM'
      by_cases hc : y = x
      · rw [if_pos hc] at hM'; cases hM'
      · rw [if_neg hc] at hM'
        obtain ⟨e', he', hk'⟩ := h2 y n hM'
        rw [hsp, List.mem_append, List.mem_cons] at he'
        refine ⟨e', ?_, hk'⟩
        rw [hsub, hse, List.mem_append]
        rcases he' with he' | rfl | he'
        · exact Or.inl he'
        · exact absurd (K.inj _ _ (hk'.symm.trans hk)) hc
        · exact Or.inr he'
    · rw [hsub]
      exact h3.sublist (List.eraseIdx_sublist _ _)
/-- a part's row -/
def RowK (W : World) (g o : Nat) (v0 v1 v2 v3 : Value) : Prop := ∃ cs f, W.heap[g]? = some (.cells cs 93 f) ∧ cs[o]? = some v0 ∧ cs[o + 1]? = some v1 ∧ cs[o + 2]? = some v2 ∧ cs[o + 3]? = some v3
theorem RowK.lok {W W' : World} {g o N : Nat} {v0 v1 v2 v3 : Value} {bb : Bool} {X : Option Nat} (h : RowK W g o v0 v1 v2 v3) (e : LoK bb X N W W') (hX : ∀ x, X = some x → ∀ cs t f, W.heap[x]? ≠ some (.cells cs t f)) : RowK W' g o v0 v1 v2 v3 := by
  obtain ⟨cs, f, h1, h2⟩ := h
  exact ⟨cs, f, (e.keep g _ h1 (by cases bb <;> simp [loT]) (fun er => hX g er _ _ _ h1)).trans h1, h2⟩
theorem RowK.four {W : World} {g o : Nat} {v0 v1 v2 v3 : Value} (h : RowK W g o v0 v1 v2 v3) : W.cell? ⟨g, o, none⟩ = some v0 ∧ W.cell? ⟨g, o + 1, none⟩ = some v1 ∧ W.cell? ⟨g, o + 2, none⟩ = some v2 ∧ W.cell? ⟨g, o + 3, none⟩ = some v3 := by
  obtain ⟨cs, f, h1, h2, h3, h4, h5⟩ := h
  exact ⟨by simp [World.cell?, h1, h2], by simp [World.cell?, h1, h3], by simp [World.cell?, h1, h4], by simp [World.cell?, h1, h5]⟩
theorem ShPs.row {lo : Nat} {w : World} {a : Option Addr} : ∀ {ts : List Tr} {i : Nat}, ShPs lo w a ts i → ∀ (k : Nat) (t : Tr), ts[k]? = some t → ∃ g v0 v1 v2 v3, a = some ⟨g, 0, none⟩ ∧ RowK w g ((i + k) * 4) v0 v1 v2 v3 ∧ ShP lo w t [v0, v1, v2, v3]
  | [], _, _, k, t, hk => by simp at hk
  | x :: r, i, h, 0, t, hk => by
    simp at hk
    subst hk
    obtain ⟨⟨g, cs, f, vs, h1, h2, h3, h4, h5⟩, _⟩ := h
    obtain ⟨v0, v1, v2, v3, rfl⟩ := h5.four
    exact ⟨g, v0, v1, v2, v3, h1, ⟨cs, f, h3, h4 0 v0 rfl, h4 1 v1 rfl, h4 2 v2 rfl, h4 3 v3 rfl⟩, h5⟩
  | x :: r, i, h, k + 1, t, hk => by
    simp at hk
    obtain ⟨g, v0, v1, v2, v3, h1, h2, h3⟩ := ShPs.row h.2 k t hk
    rw [show i + 1 + k = i + (k + 1) by omega] at h2
    exact ⟨g, v0, v1, v2, v3, h1, h2, h3⟩
section
variable {p N fd wr fb b Mb : Nat} {z : Int} {lo PB num : Nat} {kz : Int} {nm : List UInt8} {a' : Option Addr} {l c : Nat} {kids : List Tr} {w W : World} {s : LwS}
theorem TlI.all (h : TlI p N fd wr fb b Mb z lo PB num kz nm a' l c kids w W s) : (W.cell? ⟨b, 0, none⟩ = some (.pointer (some ⟨wr, 0, none⟩)) ∧ W.cell? ⟨b, 1, none⟩ = some (.map (some Mb)) ∧ W.cell? ⟨b, 2, none⟩ = some (.int .i64 z)) ∧ W.cell? ⟨PB, 0, none⟩ = some (.int .i64 kz) ∧ W.cell? ⟨PB, 1, none⟩ = some (.string (bs nm)) ∧ W.cell? ⟨PB, 2, none⟩ = some (.int .i64 (num : Int)) ∧ W.cell? ⟨PB, 3, none⟩ = some (.slice a' l c) := by
  obtain ⟨h0, h1, h2, _⟩ := h.lb.cells4
  exact ⟨⟨h0, h1, h2⟩, h.bx.four⟩
theorem TlI.drew (h : TlI p N fd wr fb b Mb z lo PB num kz nm a' l c kids w W s) : TlI p N fd wr fb b Mb z lo PB num kz nm a' l c kids w W.drew s :=
  h.step (h.lb.below (below_drewN (Below.refl _ _) 1)) (LoK.below (below_drewN (Below.refl _ _) 1) h.lb.nle)
theorem TlI.row (h : TlI p N fd wr fb b Mb z lo PB num kz nm a' l c kids w W s) (k : Nat) (t : Tr) (hk : kids[k]? = some t) : ∃ g v0 v1 v2 v3, a' = some ⟨g, 0, none⟩ ∧ RowK W g (k * 4) v0 v1 v2 v3 ∧ ShP lo W t [v0, v1, v2, v3] := by
  obtain ⟨g, v0, v1, v2, v3, h1, h2, h3⟩ := ShPs.row h.sh k t hk
  rw [Nat.zero_add] at h2
  exact ⟨g, v0, v1, v2, v3, h1, h2, h3⟩
end

end Go.Proofs.YtmmgkdcojkmlcaaGreatDoor

namespace Go.Proofs.YtmmgkdcojkmlcaaGreatDoor
open Go.RowKit

set_option maxRecDepth 100000 in
set_option maxHeartbeats 4000000 in
theorem tell_num (p N fd wr fb b Mb : Nat) (z : Int) (hp3 : 3 ≤ p) (hpm : p ≤ 2147483647) (hz : 0 ≤ z ∧ z ≤ 1000000) (nm : List UInt8) (at' num : Nat) (hn : num ≤ 9223372036854775807) : TlC p N fd wr fb b Mb z (.node 0 nm at' num []) := by
  intro to s w lo vs hB hS hR ht0 ht1
  have hmx : Tryz.prog.follows .mixedOrders = true := by kernel_rfl
  obtain ⟨a', c, rfl, hK⟩ := hS
  obtain ⟨l, hl⟩ : ∃ l, l = ([] : List Tr).length := ⟨_, rfl⟩
  obtain ⟨kz, hkz⟩ : ∃ kz : Int, kz = ((0 : Nat) : Int) := ⟨_, rfl⟩
  rw [← hl, ← hkz]
  have q0 : (kz == 0) = true := by rw [hkz]; decide
  have q1 : (kz == 1) = false := by rw [hkz]; decide
  have q2 : (kz == 2) = false := by rw [hkz]; decide
  have q3 : (kz == 3) = false := by rw [hkz]; decide
  have q9 : (kz == 9) = false := by rw [hkz]; decide
  have q10 : (kz == 10) = false := by rw [hkz]; decide
  have q11 : (kz == 11) = false := by rw [hkz]; decide
  have HI0 := hid (TlI.begin (num := num) (kz := kz) (nm := nm) (l := l) (c := c) hB hK)
  obtain ⟨PB, hPB⟩ : ∃ P, P = w.heap.size := ⟨_, rfl⟩
  obtain ⟨W0, hW0⟩ : ∃ W, W = w.alloc (.cells #[.int .i64 kz, .string (bs nm), .int .i64 (num : Int), .slice a' l c] 93) := ⟨_, rfl⟩
  rw [← hPB, ← hW0] at HI0
  have HPB := hid hPB
  have HW0 := hid hW0
  have HR := hid hR
  have HP : Hid (3 ≤ p ∧ p ≤ 2147483647) := ⟨hp3, hpm⟩
  have HT : Hid (I64z to ∧ I64z z ∧ I64z 0) := ⟨i64_of ⟨ht0, ht1⟩, i64_of hz, i64_of (by omega)⟩
  have HTT : Hid (0 ≤ to ∧ to ≤ 1000000) := ⟨ht0, ht1⟩
  obtain ⟨y0, y1, y2, y3⟩ := HI0.out.bx.four
  have HNU : Hid (I64z (num : Int)) := ⟨by omega, by omega⟩
  have HRL : Hid (s.L.length + 1 ≤ 1000000) := by have := hR.l; have := tsz_ps (.node 0 nm at' num []); unfold Hid; omega
  clear hB hK hPB hW0 hR ht0 ht1 hp3 hpm hz hkz y1 y2 y3 hn hl
  go_enter Tryz.func70, Tryz.ntmps70
  go_wp2_with (rw [← HW0.out, ← HPB.out])
  refine wp_region_held_drew (S := fun W => ((W.cell? ⟨b, 0, none⟩ = some (.pointer (some ⟨wr, 0, none⟩)) ∧ W.cell? ⟨b, 1, none⟩ = some (.map (some Mb)) ∧ W.cell? ⟨b, 2, none⟩ = some (.int .i64 z)) ∧ W.cell? ⟨PB, 0, none⟩ = some (.int .i64 kz) ∧ W.cell? ⟨PB, 1, none⟩ = some (.string (bs nm)) ∧ W.cell? ⟨PB, 2, none⟩ = some (.int .i64 (num : Int)) ∧ W.cell? ⟨PB, 3, none⟩ = some (.slice a' l c)) ∧ True) hmx (⟨HI0.out.drew.all, trivial⟩) (fun hHeld => ?_)
  refine tkA 0 (.pointer (some ⟨b, 0, none⟩)) ?_
  simp only [putX]
  refine tkA 1 (.pointer (some ⟨b, 0, none⟩)) ?_
  simp only [putX]
  refine tkA 2 (.pointer (some ⟨b, 0, none⟩)) ?_
  simp only [putX]
  refine tkA 3 (.pointer (some ⟨wr, 0, none⟩)) ?_
  simp only [putX]
  refine tkA 4 (.int .i64 to) ?_
  simp only [putX]
  refine tkA 5 (.pointer (some ⟨PB, 2, none⟩)) ?_
  simp only [putX]
  refine tkA 6 (.int .i64 (num : Int)) ?_
  simp only [putX]
  refine rdA 7 fun K' hK' => ?_
  go_simp
  refine (write_any p N fd wr fb 5 to (num : Int) 0 s _ HP.out.1 HP.out.2 HI0.out.drew.lb.wr' (by have := HRL.out; omega) HT.out.1 HNU.out HT.out.2.2).mono ?_
  rintro e w1 ⟨⟨v, rfl⟩, hl1, hk1⟩
  have HI1 := hid (HI0.out.drew.step (HI0.out.drew.lb.step hl1 hk1 rfl rfl) hk1.wide)
  refine hK'.out _ _ (⟨HI1.out.all, trivial⟩) (fun hHeld => ?_)
  clear hK' K'
  refine wpAnyH_done (by kernel_rfl) ?_ _
  go_wp2_with fail
  go_end0
  exact ⟨⟨_, rfl⟩, by rw [tlP_node]; exact HI1.out.lb, HI1.out.lk⟩

set_option maxRecDepth 100000 in
set_option maxHeartbeats 4000000 in
theorem tell_name (p N fd wr fb b Mb : Nat) (z : Int) (hp3 : 3 ≤ p) (hpm : p ≤ 2147483647) (hz : 0 ≤ z ∧ z ≤ 1000000) (nm : List UInt8) (at' num : Nat) (hn : nm.length ≤ 16) : TlC p N fd wr fb b Mb z (.node 1 nm at' num []) := by
  intro to s w lo vs hB hS hR ht0 ht1
  have hmx : Tryz.prog.follows .mixedOrders = true := by kernel_rfl
  obtain ⟨a', c, rfl, hK⟩ := hS
  obtain ⟨l, hl⟩ : ∃ l, l = ([] : List Tr).length := ⟨_, rfl⟩
  obtain ⟨kz, hkz⟩ : ∃ kz : Int, kz = ((1 : Nat) : Int) := ⟨_, rfl⟩
  rw [← hl, ← hkz]
  have q0 : (kz == 0) = false := by rw [hkz]; decide
  have q1 : (kz == 1) = true := by rw [hkz]; decide
  have q2 : (kz == 2) = false := by rw [hkz]; decide
  have q3 : (kz == 3) = false := by rw [hkz]; decide
  have q9 : (kz == 9) = false := by rw [hkz]; decide
  have q10 : (kz == 10) = false := by rw [hkz]; decide
  have q11 : (kz == 11) = false := by rw [hkz]; decide
  have HI0 := hid (TlI.begin (num := num) (kz := kz) (nm := nm) (l := l) (c := c) hB hK)
  obtain ⟨PB, hPB⟩ : ∃ P, P = w.heap.size := ⟨_, rfl⟩
  obtain ⟨W0, hW0⟩ : ∃ W, W = w.alloc (.cells #[.int .i64 kz, .string (bs nm), .int .i64 (num : Int), .slice a' l c] 93) := ⟨_, rfl⟩
  rw [← hPB, ← hW0] at HI0
  have HPB := hid hPB
  have HW0 := hid hW0
  have HR := hid hR
  have HP : Hid (3 ≤ p ∧ p ≤ 2147483647) := ⟨hp3, hpm⟩
  have HT : Hid (I64z to ∧ I64z z ∧ I64z 0) := ⟨i64_of ⟨ht0, ht1⟩, i64_of hz, i64_of (by omega)⟩
  have HTT : Hid (0 ≤ to ∧ to ≤ 1000000) := ⟨ht0, ht1⟩
  obtain ⟨y0, y1, y2, y3⟩ := HI0.out.bx.four
  have HRL : Hid (s.L.length + 1 ≤ 1000000) := by have := hR.l; have := tsz_ps (.node 1 nm at' num []); unfold Hid; omega
  have HMV : Hid (I64z ((s.M nm).getD 0)) := by
    cases hM : s.M nm with
    | none => exact HT.out.2.2
    | some v => exact i64_of (hR.m nm v hM)
  have HLM : Hid (∀ W, LoB p N fd wr fb b Mb z W (s.wr p 1 ((s.M nm).getD 0) z to) → (Instr.lookup 66 (.map (some Mb)) (.string (bs nm)) false).run Tryz.prog W = .ok (.int .i64 ((s.M nm).getD 0)) W) := fun W h => h.look (by omega)
  have HLK : Hid (∀ W, LoB p N fd wr fb b Mb z W s → (Instr.lookup 66 (.map (some Mb)) (.string (bs nm)) false).run Tryz.prog W = .ok (.int .i64 ((s.M nm).getD 0)) W) := fun W h => h.look (by omega)
  clear hB hK hPB hW0 hR ht0 ht1 hp3 hpm hz hkz y1 y2 y3 hn hl
  go_enter Tryz.func70, Tryz.ntmps70
  go_wp2_with (rw [← HW0.out, ← HPB.out])
  refine wp_region_held_drew (S := fun W => ((W.cell? ⟨b, 0, none⟩ = some (.pointer (some ⟨wr, 0, none⟩)) ∧ W.cell? ⟨b, 1, none⟩ = some (.map (some Mb)) ∧ W.cell? ⟨b, 2, none⟩ = some (.int .i64 z)) ∧ W.cell? ⟨PB, 0, none⟩ = some (.int .i64 kz) ∧ W.cell? ⟨PB, 1, none⟩ = some (.string (bs nm)) ∧ W.cell? ⟨PB, 2, none⟩ = some (.int .i64 (num : Int)) ∧ W.cell? ⟨PB, 3, none⟩ = some (.slice a' l c)) ∧ (Instr.lookup 66 (.map (some Mb)) (.string (bs nm)) false).run Tryz.prog W = .ok (.int .i64 ((s.M nm).getD 0)) W) hmx (⟨HI0.out.drew.all, HLK.out _ HI0.out.drew.lb⟩) (fun hHeld => ?_)
  refine tkA 0 (.pointer (some ⟨b, 0, none⟩)) ?_
  simp only [putX]
  refine tkA 1 (.pointer (some ⟨b, 0, none⟩)) ?_
  simp only [putX]
  refine tkA 2 (.pointer (some ⟨b, 0, none⟩)) ?_
  simp only [putX]
  refine tkA 3 (.pointer (some ⟨wr, 0, none⟩)) ?_
  simp only [putX]
  refine tkA 4 (.pointer (some ⟨b, 0, none⟩)) ?_
  simp only [putX]
  refine tkA 5 (.pointer (some ⟨b, 0, none⟩)) ?_
  simp only [putX]
  refine tkA 6 (.pointer (some ⟨b, 1, none⟩)) ?_
  simp only [putX]
  refine tkA 7 (.map (some Mb)) ?_
  simp only [putX]
  refine tkA 8 (.pointer (some ⟨PB, 1, none⟩)) ?_
  simp only [putX]
  refine tkA 9 (.string (bs nm)) ?_
  simp only [putX]
  refine tkA 10 (.int .i64 ((s.M nm).getD 0)) ?_
  simp only [putX]
  refine tkA 11 (.pointer (some ⟨b, 0, none⟩)) ?_
  simp only [putX]
  refine tkA 12 (.pointer (some ⟨b, 0, none⟩)) ?_
  simp only [putX]
  refine tkA 13 (.pointer (some ⟨b, 2, none⟩)) ?_
  simp only [putX]
  refine tkA 14 (.int .i64 z) ?_
  simp only [putX]
  refine tkA 15 (.int .i64 to) ?_
  simp only [putX]
  refine rdA 16 fun K' hK' => ?_
  go_simp
  refine (write_any p N fd wr fb 1 ((s.M nm).getD 0) z to s _ HP.out.1 HP.out.2 HI0.out.drew.lb.wr' (by have := HRL.out; omega) HMV.out HT.out.2.1 HT.out.1).mono ?_
  rintro e w1 ⟨⟨v, rfl⟩, hl1, hk1⟩
  have hlb := HI0.out.drew.lb.step hl1 hk1 rfl rfl
  have HI1 := hid (HI0.out.drew.step hlb hk1.wide)
  refine hK'.out _ _ (⟨HI1.out.all, HLM.out _ hlb⟩) (fun hHeld => ?_)
  clear hK' K'
  refine wpAnyH_done (by kernel_rfl) ?_ _
  go_wp2_with fail
  go_end0
  exact ⟨⟨_, rfl⟩, by rw [tlP_node]; exact HI1.out.lb, HI1.out.lk⟩

set_option maxRecDepth 100000 in
set_option maxHeartbeats 4000000 in
theorem tell_minus (p N fd wr fb b Mb : Nat) (z : Int) (hp3 : 3 ≤ p) (hpm : p ≤ 2147483647) (hz : 0 ≤ z ∧ z ≤ 1000000) (nm : List UInt8) (at' num : Nat) (x : Tr) (HV : VlC p N fd wr fb b Mb z x) : TlC p N fd wr fb b Mb z (.node 3 nm at' num [x]) := by
  intro to s w lo vs hB hS hR ht0 ht1
  have hmx : Tryz.prog.follows .mixedOrders = true := by kernel_rfl
  obtain ⟨a', c, rfl, hK⟩ := hS
  obtain ⟨l, hl⟩ : ∃ l, l = ([x] : List Tr).length := ⟨_, rfl⟩
  obtain ⟨kz, hkz⟩ : ∃ kz : Int, kz = ((3 : Nat) : Int) := ⟨_, rfl⟩
  rw [← hl, ← hkz]
  have q0 : (kz == 0) = false := by rw [hkz]; decide
  have q1 : (kz == 1) = false := by rw [hkz]; decide
  have q2 : (kz == 2) = false := by rw [hkz]; decide
  have q3 : (kz == 3) = true := by rw [hkz]; decide
  have q9 : (kz == 9) = false := by rw [hkz]; decide
  have q10 : (kz == 10) = false := by rw [hkz]; decide
  have q11 : (kz == 11) = false := by rw [hkz]; decide
  have HI0 := hid (TlI.begin (num := num) (kz := kz) (nm := nm) (l := l) (c := c) hB hK)
  obtain ⟨PB, hPB⟩ : ∃ P, P = w.heap.size := ⟨_, rfl⟩
  obtain ⟨W0, hW0⟩ : ∃ W, W = w.alloc (.cells #[.int .i64 kz, .string (bs nm), .int .i64 (num : Int), .slice a' l c] 93) := ⟨_, rfl⟩
  rw [← hPB, ← hW0] at HI0
  have HPB := hid hPB
  have HW0 := hid hW0
  have HR := hid hR
  have HP : Hid (3 ≤ p ∧ p ≤ 2147483647) := ⟨hp3, hpm⟩
  have HT : Hid (I64z to ∧ I64z z ∧ I64z 0) := ⟨i64_of ⟨ht0, ht1⟩, i64_of hz, i64_of (by omega)⟩
  have HTT : Hid (0 ≤ to ∧ to ≤ 1000000) := ⟨ht0, ht1⟩
  obtain ⟨y0, y1, y2, y3⟩ := HI0.out.bx.four
  have hl0 : ¬ l = 0 := by rw [hl]; simp
  have hRk : RmL s (tsz x) := by
    have h1 : RmT s (1 + tsz x) := by rw [show 1 + tsz x = tsz (.node 3 nm at' num [x]) by simp [tsz, tszs]]; exact hR
    exact h1.kids
  have HRL : Hid (((kfO p z x).v s).2.L.length + 1 ≤ 1000000) := by
    have h1 := hR.l
    have h2 := (LeL.v (q := kfO p z x) (fun to s => tlP_le p z x to s) s).l1
    have h3 : tsz (.node 3 nm at' num [x]) = 1 + tsz x := by simp [tsz, tszs]
    have := tsz_ps x
    unfold Hid
    omega
  have HVB : Hid (I64z ((kfO p z x).v s).1) := i64_of (RmL.vb (n := 0) hRk)
  obtain ⟨g, v0, v1, v2, v3, ha, hrow, hsp⟩ := HI0.out.row 0 x rfl
  subst ha
  rw [Nat.zero_mul] at hrow
  have HC : Hid (Calls Tryz.prog 49 #[.pointer (some ⟨b, 0, none⟩), .agg #[v0, v1, v2, v3]] W0.drew fun e w' => e = .returned (.int .i64 ((kfO p z x).v s).1) ∧ LoB p N fd wr fb b Mb z w' ((kfO p z x).v s).2 ∧ LoK true (some Mb) N W0.drew w') := HV s W0.drew lo _ HI0.out.drew.lb (hsp.below (below_drewN (Below.refl _ W0) 1)) hRk
  have HRW := hid hrow
  clear hB hK hPB hW0 hR ht0 ht1 hp3 hpm hz hkz y1 y2 y3 hl hRk hrow hsp HV
  go_enter Tryz.func70, Tryz.ntmps70
  go_wp2_with (rw [← HW0.out, ← HPB.out])
  refine wp_region_held_drew (S := fun W => ((W.cell? ⟨b, 0, none⟩ = some (.pointer (some ⟨wr, 0, none⟩)) ∧ W.cell? ⟨b, 1, none⟩ = some (.map (some Mb)) ∧ W.cell? ⟨b, 2, none⟩ = some (.int .i64 z)) ∧ W.cell? ⟨PB, 0, none⟩ = some (.int .i64 kz) ∧ W.cell? ⟨PB, 1, none⟩ = some (.string (bs nm)) ∧ W.cell? ⟨PB, 2, none⟩ = some (.int .i64 (num : Int)) ∧ W.cell? ⟨PB, 3, none⟩ = some (.slice (some ⟨g, 0, none⟩) l c)) ∧ W.cell? ⟨g, 0, none⟩ = some v0 ∧ W.cell? ⟨g, 1, none⟩ = some v1 ∧ W.cell? ⟨g, 2, none⟩ = some v2 ∧ W.cell? ⟨g, 3, none⟩ = some v3) hmx (⟨HI0.out.drew.all, HRW.out.four⟩) (fun hHeld => ?_)
  refine tkA 0 (.pointer (some ⟨b, 0, none⟩)) ?_
  simp only [putX]
  refine tkA 1 (.pointer (some ⟨b, 0, none⟩)) ?_
  simp only [putX]
  refine tkA 2 (.pointer (some ⟨b, 0, none⟩)) ?_
  simp only [putX]
  refine tkA 3 (.pointer (some ⟨wr, 0, none⟩)) ?_
  simp only [putX]
  refine tkA 4 (.pointer (some ⟨b, 0, none⟩)) ?_
  simp only [putX]
  refine tkA 5 (.pointer (some ⟨b, 0, none⟩)) ?_
  simp only [putX]
  refine tkA 6 (.pointer (some ⟨b, 2, none⟩)) ?_
  simp only [putX]
  refine tkA 7 (.int .i64 z) ?_
  simp only [putX]
  refine tkA 8 (.pointer (some ⟨b, 0, none⟩)) ?_
  simp only [putX]
  refine tkA 9 (.pointer (some ⟨PB, 3, none⟩)) ?_
  simp only [putX]
  refine tkA 10 (.slice (some ⟨g, 0, none⟩) l c) ?_
  simp only [putX]
  refine tkA 11 (.pointer (some ⟨g, 0, none⟩)) ?_
  simp only [putX]
  refine tkA 12 (.agg #[v0, v1, v2, v3]) ?_
  simp only [putX]
  refine tkA 14 (.int .i64 to) ?_
  simp only [putX]
  refine rdA 13 fun K' hK' => ?_
  go_simp
  refine (HC.out).mono ?_
  rintro e w1 ⟨rfl, hb1, hk1⟩
  have HI1 := hid (HI0.out.drew.step hb1 hk1)
  have HR1 := hid ((HRW.out.lok (LoK.below (below_drewN (Below.refl _ W0) 1) HI0.out.lb.nle : LoK true (some Mb) N W0 W0.drew) HI0.out.lb.noX).lok hk1 HI0.out.drew.lb.noX)
  refine hK'.out _ _ (⟨HI1.out.all, HR1.out.four⟩) (fun hHeld => ?_)
  clear hK' K'
  refine rdA 15 fun K' hK' => ?_
  go_simp
  refine (write_any p N fd wr fb 2 z ((kfO p z x).v s).1 to ((kfO p z x).v s).2 _ HP.out.1 HP.out.2 HI1.out.lb.wr' (by have := HRL.out; omega) HT.out.2.1 HVB.out HT.out.1).mono ?_
  rintro e w2 ⟨⟨v, rfl⟩, hl2, hk2⟩
  have HI2 := hid (HI1.out.step (HI1.out.lb.step hl2 hk2 rfl rfl) hk2.wide)
  refine hK'.out _ _ (⟨HI2.out.all, (HR1.out.lok hk2.wide HI1.out.lb.noX).four⟩) (fun hHeld => ?_)
  clear hK' K'
  refine wpAnyH_done (by kernel_rfl) ?_ _
  go_wp2_with fail
  go_end0
  exact ⟨⟨_, rfl⟩, by rw [tlP_node, kfP_cons, kfP_nil]; exact HI2.out.lb, HI2.out.lk⟩

end Go.Proofs.YtmmgkdcojkmlcaaGreatDoor

namespace Go.Proofs.YtmmgkdcojkmlcaaGreatDoor
open Go.RowKit

/-- the names turned -/
theorem LoB.setM {p N fd wr fb b Mb : Nat} {z : Int} {w w' : World} {s : LwS} {M : List UInt8 → Option Int} (h : LoB p N fd wr fb b Mb z w s) (hm : MapI nmk (fun x => x.length ≤ 4000) w' Mb M) (hg : w.grownBy w' (some Mb)) : LoB p N fd wr fb b Mb z w' (s.sM M) ∧ LoK true (some Mb) N w w' := by
  obtain ⟨es, cl, hmo, _⟩ := h.map
  have ho : ∀ {g : Nat} {cs : Array Value} {t : TypeId} {f : Nat × Nat}, w.heap[g]? = some (.cells cs t f) → w'.heap[g]? = w.heap[g]? := @fun g cs t f hgc => hg.block g (Array.getElem?_eq_some_iff.1 hgc).1 (fun e => by
    injection e with e
    subst e
    rw [hmo] at hgc
    cases hgc)
  have hne : ∀ {e : TypeId} {k : Nat} {v : Value} {n : Nat} {xs : List Value}, w.ownsRow N e k v n xs → v.ownBlock = none ∨ v.ownBlock ≠ some Mb := @fun e k v n xs hr => by
    cases hv : v.ownBlock with
    | none => exact Or.inl rfl
    | some g =>
      obtain ⟨_, cs, f, hc⟩ := own_obj hr g hv
      exact Or.inr (fun e => by injection e with e; subst e; rw [hmo] at hc; cases hc)
  obtain ⟨fcs, ff, hf1, hf2⟩ := h.wr'.fld
  obtain ⟨lv, cv, h3, h4, h5⟩ := h.wr'.str
  refine ⟨⟨⟨⟨fcs, ff, (ho hf1).trans hf1, hf2⟩, ⟨lv, cv, (ho h3).trans h3, h4.kept hg (hne h4), h5.kept hg (hne h5)⟩, h.wr'.hN⟩, (ho h.body).trans h.body, hm, h.hb, h.hM⟩, ⟨⟨hg.os, hg.tape, hg.output, hg.size, fun k hk => hg.block k (Nat.lt_of_lt_of_le hk h.nle) (fun e => by injection e with e; have := h.hM; omega)⟩, fun g o hgo _ hx => hg.block g (Array.getElem?_eq_some_iff.1 hgo).1 hx.symm⟩⟩

set_option maxRecDepth 100000 in
set_option maxHeartbeats 4000000 in
theorem tell_let (p N fd wr fb b Mb : Nat) (z : Int) (hp3 : 3 ≤ p) (hpm : p ≤ 2147483647) (hz : 0 ≤ z ∧ z ≤ 1000000) (nm : List UInt8) (at' num : Nat) (hnm : nm.length ≤ 16) (x y : Tr) (HVx : VlC p N fd wr fb b Mb z x) (HTy : TlC p N fd wr fb b Mb z y) : TlC p N fd wr fb b Mb z (.node 9 nm at' num [x, y]) := by
  intro to s w lo vs hB hS hR ht0 ht1
  have hmx : Tryz.prog.follows .mixedOrders = true := by kernel_rfl
  obtain ⟨a', c, rfl, hK⟩ := hS
  obtain ⟨l, hl⟩ : ∃ l, l = ([x, y] : List Tr).length := ⟨_, rfl⟩
  obtain ⟨kz, hkz⟩ : ∃ kz : Int, kz = ((9 : Nat) : Int) := ⟨_, rfl⟩
  rw [← hl, ← hkz]
  have q0 : (kz == 0) = false := by rw [hkz]; decide
  have q1 : (kz == 1) = false := by rw [hkz]; decide
  have q2 : (kz == 2) = false := by rw [hkz]; decide
  have q3 : (kz == 3) = false := by rw [hkz]; decide
  have q9 : (kz == 9) = true := by rw [hkz]; decide
  have q10 : (kz == 10) = false := by rw [hkz]; decide
  have q11 : (kz == 11) = false := by rw [hkz]; decide
  have HI0 := hid (TlI.begin (num := num) (kz := kz) (nm := nm) (l := l) (c := c) hB hK)
  obtain ⟨PB, hPB⟩ : ∃ P, P = w.heap.size := ⟨_, rfl⟩
  obtain ⟨W0, hW0⟩ : ∃ W, W = w.alloc (.cells #[.int .i64 kz, .string (bs nm), .int .i64 (num : Int), .slice a' l c] 93) := ⟨_, rfl⟩
  rw [← hPB, ← hW0] at HI0
  have HPB := hid hPB
  have HW0 := hid hW0
  have HR := hid hR
  have HP : Hid (3 ≤ p ∧ p ≤ 2147483647) := ⟨hp3, hpm⟩
  have HT : Hid (I64z to ∧ I64z z ∧ I64z 0) := ⟨i64_of ⟨ht0, ht1⟩, i64_of hz, i64_of (by omega)⟩
  have HTT : Hid (0 ≤ to ∧ to ≤ 1000000) := ⟨ht0, ht1⟩
  obtain ⟨y0, y1, y2, y3⟩ := HI0.out.bx.four
  have hl0 : ¬ l = 0 := by rw [hl]; simp
  have hl1 : (1 : Int) < (l : Int) := by rw [hl]; simp
  have hRk : RmL s (tsz x + tsz y) := by
    have h1 : RmT s (1 + (tsz x + tsz y)) := by rw [show 1 + (tsz x + tsz y) = tsz (.node 9 nm at' num [x, y]) by simp [tsz, tszs]]; exact hR
    exact h1.kids
  have HRk := hid hRk
  have hVB := RmL.vb (p := p) (z := z) hRk
  have hR1 := RmL.v (p := p) (z := z) hRk
  have HNL : Hid (nm.length ≤ 4000) := by unfold Hid; omega
  obtain ⟨s1, hs1⟩ : ∃ s1, s1 = ((kfO p z x).v s).2 := ⟨_, rfl⟩
  obtain ⟨vx, hvx⟩ : ∃ vx, vx = ((kfO p z x).v s).1 := ⟨_, rfl⟩
  have HEQ : Hid (tlP p z (.node 9 nm at' num [x, y]) to s = (tlP p z y to (s1.sM (updL s1.M nm vx))).sM (delL (tlP p z y to (s1.sM (updL s1.M nm vx))).M nm)) := by
    unfold Hid
    rw [tlP_node, kfP_cons, kfP_cons, kfP_nil, hs1, hvx]
    rfl
  rw [← hs1] at hR1
  rw [← hvx] at hVB
  have HRT : Hid (RmT (s1.sM (updL s1.M nm vx)) (tsz y)) := ⟨hR1.t.l, hR1.t.c, hR1.t.k, fun a v e => by
    by_cases ha : a = nm
    · simp [LwS.sM, updL, ha] at e
      rw [← e]
      exact hVB
    · exact hR1.m a v (by simpa [LwS.sM, updL, ha] using e)⟩
  obtain ⟨g, v0, v1, v2, v3, ha, hrow, hsp⟩ := HI0.out.row 0 x rfl
  subst ha
  rw [Nat.zero_mul] at hrow
  have HC : Hid (Calls Tryz.prog 49 #[.pointer (some ⟨b, 0, none⟩), .agg #[v0, v1, v2, v3]] W0.drew fun e w' => e = .returned (.int .i64 vx) ∧ LoB p N fd wr fb b Mb z w' s1 ∧ LoK true (some Mb) N W0.drew w') := by
    rw [hs1, hvx]
    exact HVx s W0.drew lo _ HI0.out.drew.lb (hsp.below (below_drewN (Below.refl _ W0) 1)) (hRk.less (by omega))
  have HRW := hid hrow
  have HTY := hid HTy
  clear hB hK hPB hW0 hR ht0 ht1 hp3 hpm hz hkz y1 y2 y3 hl hRk hrow hsp HVx HTy hVB hR1 hs1 hvx hnm
  go_enter Tryz.func70, Tryz.ntmps70
  go_wp2_with (rw [← HW0.out, ← HPB.out])
  refine wp_region_held_drew (S := fun W => ((W.cell? ⟨b, 0, none⟩ = some (.pointer (some ⟨wr, 0, none⟩)) ∧ W.cell? ⟨b, 1, none⟩ = some (.map (some Mb)) ∧ W.cell? ⟨b, 2, none⟩ = some (.int .i64 z)) ∧ W.cell? ⟨PB, 0, none⟩ = some (.int .i64 kz) ∧ W.cell? ⟨PB, 1, none⟩ = some (.string (bs nm)) ∧ W.cell? ⟨PB, 2, none⟩ = some (.int .i64 (num : Int)) ∧ W.cell? ⟨PB, 3, none⟩ = some (.slice (some ⟨g, 0, none⟩) l c)) ∧ W.cell? ⟨g, 0, none⟩ = some v0 ∧ W.cell? ⟨g, 1, none⟩ = some v1 ∧ W.cell? ⟨g, 2, none⟩ = some v2 ∧ W.cell? ⟨g, 3, none⟩ = some v3) hmx (⟨HI0.out.drew.all, HRW.out.four⟩) (fun hHeld => ?_)
  refine tkA 0 (.pointer (some ⟨b, 0, none⟩)) ?_
  simp only [putX]
  refine tkA 1 (.pointer (some ⟨b, 0, none⟩)) ?_
  simp only [putX]
  refine tkA 2 (.pointer (some ⟨b, 1, none⟩)) ?_
  simp only [putX]
  refine tkA 3 (.map (some Mb)) ?_
  simp only [putX]
  refine tkA 4 (.pointer (some ⟨PB, 1, none⟩)) ?_
  simp only [putX]
  refine tkA 5 (.string (bs nm)) ?_
  simp only [putX]
  refine tkA 6 (.pointer (some ⟨b, 0, none⟩)) ?_
  simp only [putX]
  refine tkA 7 (.pointer (some ⟨PB, 3, none⟩)) ?_
  simp only [putX]
  refine tkA 8 (.slice (some ⟨g, 0, none⟩) l c) ?_
  simp only [putX]
  refine tkA 9 (.pointer (some ⟨g, 0, none⟩)) ?_
  simp only [putX]
  refine tkA 10 (.agg #[v0, v1, v2, v3]) ?_
  simp only [putX]
  refine rdA 11 fun K' hK' => ?_
  go_simp
  refine (HC.out).mono ?_
  rintro e w1 ⟨rfl, hb1, hk1⟩
  have HI1 := hid (HI0.out.drew.step hb1 hk1)
  have HR1 := hid ((HRW.out.lok (LoK.below (below_drewN (Below.refl _ W0) 1) HI0.out.lb.nle : LoK true (some Mb) N W0 W0.drew) HI0.out.lb.noX).lok hk1 HI0.out.drew.lb.noX)
  obtain ⟨w2, hrun, hmp, hgr⟩ := MapI.update namK HI1.out.lb.map HNL.out vx
  have hrun2 : (Instr.mapUpdate 66 (.map (some Mb)) (.string (bs nm)) (.int .i64 vx)).run Tryz.prog w1 = .ok () w2 := hrun
  obtain ⟨hlb2, hlk2⟩ := HI1.out.lb.setM hmp hgr
  refine hK'.out _ _ (⟨HI1.out.all, HR1.out.four⟩) (fun hHeld => ?_)
  clear hK' K'
  refine rdA 12 fun K' hK' => ?_
  have HI2 := hid (HI1.out.step hlb2 hlk2)
  go_simp
  refine hK'.out _ _ (⟨HI2.out.all, (HR1.out.lok hlk2 HI1.out.lb.noX).four⟩) (fun hHeld => ?_)
  clear hK' K'
  refine wpAnyH_done (by kernel_rfl) ?_ _
  obtain ⟨g2, u0, u1, u2, u3, ha, hrow2, hsp2⟩ := HI2.out.row 1 y rfl
  injection ha with ha
  injection ha with ha
  subst ha
  rw [Nat.one_mul] at hrow2
  obtain ⟨c0, c1, c2, c3⟩ := hrow2.four
  simp only [Nat.reduceAdd] at c1 c2 c3
  obtain ⟨y0, y1, y2, y3⟩ := HI2.out.bx.four
  have HTC := hid (HTY.out to (s1.sM (updL s1.M nm vx)) w2 lo _ HI2.out.lb hsp2 HRT.out HTT.out.1 HTT.out.2)
  clear hrow2 hsp2 hrun hrun2 hmp hgr hb1 hk1 hlb2 hlk2 y0 y1 y2 HC HTY
  go_wp2_with fail
  refine HTC.out.mono ?_
  rintro e w3 ⟨⟨v, rfl⟩, hb3, hk3⟩
  have HI3 := hid (HI2.out.step hb3 hk3)
  have HI4 := hid HI3.out.drew
  obtain ⟨w4, hrun, hmp, hgr⟩ := MapI.delete namK HI4.out.lb.map HNL.out 0
  have hrun2 : (Builtin.delete_ #[66, 9] 0 #[.map (some Mb), .string (bs nm)]).run Tryz.prog w3.drew = .ok (.tuple #[]) w4 := hrun
  obtain ⟨hlb4, hlk4⟩ := HI4.out.lb.setM hmp hgr
  have HI5 := hid (HI4.out.step hlb4 hlk4)
  clear c0 c1 c2 c3 y3 hb3 hk3 hrun hmp hgr hlb4 hlk4
  go_wp2_with fail
  refine wp_region_held_drew (S := fun W => ((W.cell? ⟨b, 0, none⟩ = some (.pointer (some ⟨wr, 0, none⟩)) ∧ W.cell? ⟨b, 1, none⟩ = some (.map (some Mb)) ∧ W.cell? ⟨b, 2, none⟩ = some (.int .i64 z)) ∧ W.cell? ⟨PB, 0, none⟩ = some (.int .i64 kz) ∧ W.cell? ⟨PB, 1, none⟩ = some (.string (bs nm)) ∧ W.cell? ⟨PB, 2, none⟩ = some (.int .i64 (num : Int)) ∧ W.cell? ⟨PB, 3, none⟩ = some (.slice (some ⟨g, 0, none⟩) l c)) ∧ True) hmx (⟨HI4.out.all, trivial⟩) (fun hHeld => ?_)
  refine tkA 0 (.pointer (some ⟨b, 0, none⟩)) ?_
  simp only [putX]
  refine tkA 1 (.pointer (some ⟨b, 0, none⟩)) ?_
  simp only [putX]
  refine tkA 2 (.pointer (some ⟨b, 1, none⟩)) ?_
  simp only [putX]
  refine tkA 3 (.map (some Mb)) ?_
  simp only [putX]
  refine tkA 4 (.pointer (some ⟨PB, 1, none⟩)) ?_
  simp only [putX]
  refine tkA 5 (.string (bs nm)) ?_
  simp only [putX]
  refine rdA 6 fun K' hK' => ?_
  go_simp
  refine hK'.out _ _ (⟨HI5.out.all, trivial⟩) (fun hHeld => ?_)
  clear hK' K'
  refine wpAnyH_done (by kernel_rfl) ?_ _
  go_wp2_with fail
  go_end0
  exact ⟨⟨_, rfl⟩, by rw [HEQ.out]; exact HI5.out.lb, HI5.out.lk⟩

set_option maxRecDepth 100000 in
set_option maxHeartbeats 4000000 in
theorem tell_need (p N fd wr fb b Mb : Nat) (z : Int) (hp3 : 3 ≤ p) (hpm : p ≤ 2147483647) (hz : 0 ≤ z ∧ z ≤ 1000000) (nm : List UInt8) (at' num : Nat) (x y u : Tr) (HVx : VlC p N fd wr fb b Mb z x) (HVy : VlC p N fd wr fb b Mb z y) (HTu : TlC p N fd wr fb b Mb z u) : TlC p N fd wr fb b Mb z (.node 10 nm at' num [x, y, u]) := by
  intro to s w lo vs hB hS hR ht0 ht1
  have hmx : Tryz.prog.follows .mixedOrders = true := by kernel_rfl
  obtain ⟨a', c, rfl, hK⟩ := hS
  obtain ⟨l, hl⟩ : ∃ l, l = ([x, y, u] : List Tr).length := ⟨_, rfl⟩
  obtain ⟨kz, hkz⟩ : ∃ kz : Int, kz = ((10 : Nat) : Int) := ⟨_, rfl⟩
  rw [← hl, ← hkz]
  have q0 : (kz == 0) = false := by rw [hkz]; decide
  have q1 : (kz == 1) = false := by rw [hkz]; decide
  have q2 : (kz == 2) = false := by rw [hkz]; decide
  have q3 : (kz == 3) = false := by rw [hkz]; decide
  have q9 : (kz == 9) = false := by rw [hkz]; decide
  have q10 : (kz == 10) = true := by rw [hkz]; decide
  have q11 : (kz == 11) = false := by rw [hkz]; decide
  have HI0 := hid (TlI.begin (num := num) (kz := kz) (nm := nm) (l := l) (c := c) hB hK)
  obtain ⟨PB, hPB⟩ : ∃ P, P = w.heap.size := ⟨_, rfl⟩
  obtain ⟨W0, hW0⟩ : ∃ W, W = w.alloc (.cells #[.int .i64 kz, .string (bs nm), .int .i64 (num : Int), .slice a' l c] 93) := ⟨_, rfl⟩
  rw [← hPB, ← hW0] at HI0
  have HPB := hid hPB
  have HW0 := hid hW0
  have HR := hid hR
  have HP : Hid (3 ≤ p ∧ p ≤ 2147483647) := ⟨hp3, hpm⟩
  have HT : Hid (I64z to ∧ I64z z ∧ I64z 0) := ⟨i64_of ⟨ht0, ht1⟩, i64_of hz, i64_of (by omega)⟩
  have HTT : Hid (0 ≤ to ∧ to ≤ 1000000) := ⟨ht0, ht1⟩
  obtain ⟨y0, y1, y2, y3⟩ := HI0.out.bx.four
  have hl2 : (2 : Int) < (l : Int) := by rw [hl]; simp
  have hR0 : RmT s (1 + (tsz x + (tsz y + tsz u))) := by rw [show 1 + (tsz x + (tsz y + tsz u)) = tsz (.node 10 nm at' num [x, y, u]) by simp [tsz, tszs]]; exact hR
  have hRk : RmL s (tsz x + (tsz y + tsz u)) := hR0.kids
  have hVx := RmL.vb (p := p) (z := z) hRk
  have hR1 := RmL.v (p := p) (z := z) hRk
  have hVy := RmL.vb (p := p) (z := z) hR1
  have hR2 := RmL.v (p := p) (z := z) hR1
  have hLx := (LeL.v (q := kfO p z x) (fun to s => tlP_le p z x to s) s).l1
  have hLy := (LeL.v (q := kfO p z y) (fun to s => tlP_le p z y to s) ((kfO p z x).v s).2).l1
  have hxp := tsz_ps x
  have hyp := tsz_ps y
  obtain ⟨s2, hs2⟩ : ∃ s2, s2 = ((kfO p z y).v ((kfO p z x).v s).2).2 := ⟨_, rfl⟩
  obtain ⟨vx, hvx⟩ : ∃ vx, vx = ((kfO p z x).v s).1 := ⟨_, rfl⟩
  obtain ⟨vy, hvy⟩ : ∃ vy, vy = ((kfO p z y).v ((kfO p z x).v s).2).1 := ⟨_, rfl⟩
  have HEQ : Hid (tlP p z (.node 10 nm at' num [x, y, u]) to s = tlP p z u to (s2.wr p 7 vx vy 0)) := by
    unfold Hid
    rw [tlP_node, kfP_cons, kfP_cons, kfP_cons, kfP_nil, hs2, hvx, hvy]
    rfl
  have HC : Hid (Calls Tryz.prog 89 #[.pointer (some ⟨b, 0, none⟩), .agg #[.int .i64 kz, .string (bs nm), .int .i64 (num : Int), .slice a' l c]] W0 fun e w' => e = .returned (.tuple #[.int .i64 vx, .int .i64 vy]) ∧ LoB p N fd wr fb b Mb z w' s2 ∧ LoK true (some Mb) N W0 w') := by
    rw [hvx, hvy, hs2]
    exact ltwo_of p N fd wr fb b Mb z x y [u] HVx HVy s W0 lo num kz nm a' l c hl HI0.out.lb HI0.out.sh (hRk.less (by omega))
  rw [← hs2] at hR2 hLy
  rw [← hvx] at hVx
  rw [← hvy] at hVy
  have HRL : Hid (s2.L.length + 1 ≤ 1000000) := by have := hR0.l; unfold Hid; omega
  have HVB : Hid (I64z vx ∧ I64z vy) := ⟨i64_of hVx, i64_of hVy⟩
  have HRT : Hid (RmT (s2.wr p 7 vx vy 0) (tsz u)) := ⟨by have := hR0.l; have := (LeL.wr s2 p 7 vx vy 0).l1; omega, hR2.t.c, hR2.t.k, hR2.m⟩
  have HWX : Hid (∀ W, LoW p N fd wr fb W s2 → Calls Tryz.prog 44 #[.pointer (some ⟨wr, 0, none⟩), .int .i64 7, .int .i64 vx, .int .i64 vy, .int .i64 0] W fun e w' => (∃ v, e = .returned v) ∧ LoW p N fd wr fb w' (s2.wr p 7 vx vy 0) ∧ LoK false none N W w') := fun W h => write_any p N fd wr fb 7 vx vy 0 s2 W HP.out.1 HP.out.2 h HRL.out HVB.out.1 HVB.out.2 HT.out.2.2
  have HTU := hid HTu
  clear hB hK hPB hW0 hR ht0 ht1 hp3 hpm hz hkz hl hR0 hRk hVx hR1 hVy hR2 hLx hLy hxp hyp hs2 hvx hvy HVx HVy HTu
  go_enter Tryz.func70, Tryz.ntmps70
  go_wp2_with (rw [← HW0.out, ← HPB.out])
  refine HC.out.mono ?_
  rintro e w1 ⟨rfl, hb1, hk1⟩
  have HI1 := hid (HI0.out.step hb1 hk1)
  have HW1 := hid (HWX.out w1 HI1.out.lb.wr')
  obtain ⟨b0, _, _, _⟩ := HI1.out.lb.cells4
  clear y0 y1 y2 y3 hb1 hk1 HC HWX
  go_wp2_with fail
  refine HW1.out.mono ?_
  rintro e w2 ⟨⟨v, rfl⟩, hl2', hk2⟩
  have HI2 := hid (HI1.out.step (HI1.out.lb.step hl2' hk2 rfl rfl) hk2.wide)
  obtain ⟨g, u0, u1, u2, u3, ha, hrow, hsp⟩ := HI2.out.row 2 u rfl
  subst ha
  obtain ⟨c0, c1, c2, c3⟩ := hrow.four
  simp only [Nat.reduceMul, Nat.reduceAdd] at c0 c1 c2 c3
  obtain ⟨y0, y1, y2, y3⟩ := HI2.out.bx.four
  have HTC := hid (HTU.out to (s2.wr p 7 vx vy 0) w2 lo _ HI2.out.lb hsp HRT.out HTT.out.1 HTT.out.2)
  clear hrow hsp y0 y1 y2 hl2' hk2 b0 HTU
  go_wp2_with fail
  refine HTC.out.mono ?_
  rintro e w3 ⟨⟨v, rfl⟩, hb3, hk3⟩
  go_wp2_with fail
  go_end0
  exact ⟨⟨_, rfl⟩, by rw [HEQ.out]; exact hb3, HI2.out.lk.trans hk3⟩

set_option maxRecDepth 100000 in
set_option maxHeartbeats 4000000 in
theorem tell_op (p N fd wr fb b Mb : Nat) (z : Int) (hp3 : 3 ≤ p) (hpm : p ≤ 2147483647) (hz : 0 ≤ z ∧ z ≤ 1000000) (nm : List UInt8) (at' num : Nat) (k : Nat) (hk4 : 4 ≤ k ∧ k ≤ 8) (x y : Tr) (HVx : VlC p N fd wr fb b Mb z x) (HVy : VlC p N fd wr fb b Mb z y) : TlC p N fd wr fb b Mb z (.node k nm at' num [x, y]) := by
  intro to s w lo vs hB hS hR ht0 ht1
  have hmx : Tryz.prog.follows .mixedOrders = true := by kernel_rfl
  obtain ⟨a', c, rfl, hK⟩ := hS
  obtain ⟨l, hl⟩ : ∃ l, l = ([x, y] : List Tr).length := ⟨_, rfl⟩
  obtain ⟨kz, hkz⟩ : ∃ kz : Int, kz = ((k : Nat) : Int) := ⟨_, rfl⟩
  rw [← hl, ← hkz]
  have q0 : (kz == 0) = false := by rw [hkz]; simp; omega
  have q1 : (kz == 1) = false := by rw [hkz]; simp; omega
  have q2 : (kz == 2) = false := by rw [hkz]; simp; omega
  have q3 : (kz == 3) = false := by rw [hkz]; simp; omega
  have q9 : (kz == 9) = false := by rw [hkz]; simp; omega
  have q10 : (kz == 10) = false := by rw [hkz]; simp; omega
  have q11 : (kz == 11) = false := by rw [hkz]; simp; omega
  have HI0 := hid (TlI.begin (num := num) (kz := kz) (nm := nm) (l := l) (c := c) hB hK)
  obtain ⟨PB, hPB⟩ : ∃ P, P = w.heap.size := ⟨_, rfl⟩
  obtain ⟨W0, hW0⟩ : ∃ W, W = w.alloc (.cells #[.int .i64 kz, .string (bs nm), .int .i64 (num : Int), .slice a' l c] 93) := ⟨_, rfl⟩
  rw [← hPB, ← hW0] at HI0
  have HPB := hid hPB
  have HW0 := hid hW0
  have HR := hid hR
  have HP : Hid (3 ≤ p ∧ p ≤ 2147483647) := ⟨hp3, hpm⟩
  have HT : Hid (I64z to ∧ I64z z ∧ I64z 0) := ⟨i64_of ⟨ht0, ht1⟩, i64_of hz, i64_of (by omega)⟩
  have HTT : Hid (0 ≤ to ∧ to ≤ 1000000) := ⟨ht0, ht1⟩
  obtain ⟨y0, y1, y2, y3⟩ := HI0.out.bx.four
  have hR0 : RmT s (1 + (tsz x + tsz y)) := by rw [show 1 + (tsz x + tsz y) = tsz (.node k nm at' num [x, y]) by simp [tsz, tszs]]; exact hR
  have hRk : RmL s (tsz x + tsz y) := hR0.kids
  have hVx := RmL.vb (p := p) (z := z) hRk
  have hR1 := RmL.v (p := p) (z := z) hRk
  have hVy := RmL.vb (n := 0) (p := p) (z := z) hR1
  have hLx := (LeL.v (q := kfO p z x) (fun to s => tlP_le p z x to s) s).l1
  have hLy := (LeL.v (q := kfO p z y) (fun to s => tlP_le p z y to s) ((kfO p z x).v s).2).l1
  have hxp := tsz_ps x
  have hyp := tsz_ps y
  obtain ⟨s2, hs2⟩ : ∃ s2, s2 = ((kfO p z y).v ((kfO p z x).v s).2).2 := ⟨_, rfl⟩
  obtain ⟨vx, hvx⟩ : ∃ vx, vx = ((kfO p z x).v s).1 := ⟨_, rfl⟩
  obtain ⟨vy, hvy⟩ : ∃ vy, vy = ((kfO p z y).v ((kfO p z x).v s).2).1 := ⟨_, rfl⟩
  have HEQ : Hid (tlP p z (.node k nm at' num [x, y]) to s = s2.wr p (opL k) vx vy to) := by
    unfold Hid
    rw [tlP_node, kfP_cons, kfP_cons, kfP_nil, hs2, hvx, hvy]
    unfold tlN
    rw [if_neg (by omega), if_neg (by omega), if_neg (by omega)]
    simp only
    rw [if_neg (by omega)]
  have HC : Hid (Calls Tryz.prog 89 #[.pointer (some ⟨b, 0, none⟩), .agg #[.int .i64 kz, .string (bs nm), .int .i64 (num : Int), .slice a' l c]] W0 fun e w' => e = .returned (.tuple #[.int .i64 vx, .int .i64 vy]) ∧ LoB p N fd wr fb b Mb z w' s2 ∧ LoK true (some Mb) N W0 w') := by
    rw [hvx, hvy, hs2]
    exact ltwo_of p N fd wr fb b Mb z x y [] HVx HVy s W0 lo num kz nm a' l c hl HI0.out.lb HI0.out.sh (hRk.less (by omega))
  rw [← hs2] at hLy
  rw [← hvx] at hVx
  rw [← hvy] at hVy
  have HRL : Hid (s2.L.length + 1 ≤ 1000000) := by have := hR0.l; unfold Hid; omega
  have HVB : Hid (I64z vx ∧ I64z vy) := ⟨i64_of hVx, i64_of hVy⟩
  have HWX : Hid (∀ W, LoW p N fd wr fb W s2 → Calls Tryz.prog 44 #[.pointer (some ⟨wr, 0, none⟩), .int .i64 (opL k), .int .i64 vx, .int .i64 vy, .int .i64 to] W fun e w' => (∃ v, e = .returned v) ∧ LoW p N fd wr fb w' (s2.wr p (opL k) vx vy to) ∧ LoK false none N W w') := fun W h => write_any p N fd wr fb (opL k) vx vy to s2 W HP.out.1 HP.out.2 h HRL.out HVB.out.1 HVB.out.2 HT.out.1
  have HBT : Hid (∀ W, Calls Tryz.prog 91 #[.int .i64 kz] W fun e w' => e = .returned (.int .i64 (opL k)) ∧ w' = W) := fun W => by rw [hkz]; exact between_any k W hk4
  clear hB hK hPB hW0 hR ht0 ht1 hp3 hpm hz hkz hl hk4 hR0 hRk hVx hR1 hVy hLx hLy hxp hyp hs2 hvx hvy HVx HVy
  go_enter Tryz.func70, Tryz.ntmps70
  go_wp2_with (rw [← HW0.out, ← HPB.out])
  refine HC.out.mono ?_
  rintro e w1 ⟨rfl, hb1, hk1⟩
  have HI1 := hid (HI0.out.step hb1 hk1)
  clear y0 y1 y2 y3 hb1 hk1 HC
  go_wp2_with fail
  refine wp_region_held_drew (S := fun W => ((W.cell? ⟨b, 0, none⟩ = some (.pointer (some ⟨wr, 0, none⟩)) ∧ W.cell? ⟨b, 1, none⟩ = some (.map (some Mb)) ∧ W.cell? ⟨b, 2, none⟩ = some (.int .i64 z)) ∧ W.cell? ⟨PB, 0, none⟩ = some (.int .i64 kz) ∧ W.cell? ⟨PB, 1, none⟩ = some (.string (bs nm)) ∧ W.cell? ⟨PB, 2, none⟩ = some (.int .i64 (num : Int)) ∧ W.cell? ⟨PB, 3, none⟩ = some (.slice a' l c)) ∧ True) hmx (⟨HI1.out.drew.all, trivial⟩) (fun hHeld => ?_)
  refine tkA 0 (.pointer (some ⟨b, 0, none⟩)) ?_
  simp only [putX]
  refine tkA 1 (.pointer (some ⟨b, 0, none⟩)) ?_
  simp only [putX]
  refine tkA 2 (.pointer (some ⟨b, 0, none⟩)) ?_
  simp only [putX]
  refine tkA 3 (.pointer (some ⟨wr, 0, none⟩)) ?_
  simp only [putX]
  refine tkA 4 (.pointer (some ⟨PB, 0, none⟩)) ?_
  simp only [putX]
  refine tkA 5 (.int .i64 kz) ?_
  simp only [putX]
  refine tkA 7 (.int .i64 vx) ?_
  simp only [putX]
  refine tkA 8 (.int .i64 vy) ?_
  simp only [putX]
  refine tkA 9 (.int .i64 to) ?_
  simp only [putX]
  refine rdA 6 fun K' hK' => ?_
  go_simp
  refine (HBT.out _).mono ?_
  rintro e w2 ⟨rfl, rfl⟩
  refine hK'.out _ _ (hHeld) (fun hHeld => ?_)
  clear hK' K'
  refine rdA 10 fun K' hK' => ?_
  go_simp
  refine (HWX.out _ HI1.out.drew.lb.wr').mono ?_
  rintro e w2 ⟨⟨v, rfl⟩, hl2, hk2⟩
  have HI2 := hid (HI1.out.drew.step (HI1.out.drew.lb.step hl2 hk2 rfl rfl) hk2.wide)
  refine hK'.out _ _ (⟨HI2.out.all, trivial⟩) (fun hHeld => ?_)
  clear hK' K'
  refine wpAnyH_done (by kernel_rfl) ?_ _
  go_wp2_with fail
  go_end0
  exact ⟨⟨_, rfl⟩, by rw [HEQ.out]; exact HI2.out.lb, HI2.out.lk⟩

end Go.Proofs.YtmmgkdcojkmlcaaGreatDoor

namespace Go.Proofs.YtmmgkdcojkmlcaaGreatDoor
open Go.RowKit

set_option maxRecDepth 100000 in
set_option maxHeartbeats 8000000 in
theorem if_of (p N fd wr fb b Mb : Nat) (z : Int) (hp3 : 3 ≤ p) (hpm : p ≤ 2147483647) (x y u : Tr) (HVx : VlC p N fd wr fb b Mb z x) (HTy : TlC p N fd wr fb b Mb z y) (HTu : TlC p N fd wr fb b Mb z u) (to : Int) (ht : 0 ≤ to ∧ to ≤ 1000000) (s : LwS) (w : World) (lo num : Nat) (kz : Int) (nm : List UInt8) (a' : Option Addr) (l c : Nat) (hl : l = 3) (hB : LoB p N fd wr fb b Mb z w s) (hS : ShPs lo w a' [x, y, u] 0) (hR : RmT s (1 + (tsz x + (tsz y + tsz u)))) :
    Calls Tryz.prog 90 #[.pointer (some ⟨b, 0, none⟩), .agg #[.int .i64 kz, .string (bs nm), .int .i64 (num : Int), .slice a' l c], .int .i64 to] w fun e w' => (∃ v, e = .returned v) ∧ LoB p N fd wr fb b Mb z w' (ifL p (kfO p z y) (kfO p z u) to ((kfO p z x).v s).1 ((kfO p z x).v s).2) ∧ LoK true (some Mb) N w w' := by
  have hmx : Tryz.prog.follows .mixedOrders = true := by kernel_rfl
  subst hl
  have HI0 := hid (TlI.begin (num := num) (kz := kz) (nm := nm) (l := 3) (c := c) hB hS)
  obtain ⟨PB, hPB⟩ : ∃ P, P = w.heap.size := ⟨_, rfl⟩
  obtain ⟨W0, hW0⟩ : ∃ W, W = w.alloc (.cells #[.int .i64 kz, .string (bs nm), .int .i64 (num : Int), .slice a' 3 c] 93) := ⟨_, rfl⟩
  rw [← hPB, ← hW0] at HI0
  have HPB := hid hPB
  have HW0 := hid hW0
  have HP : Hid (3 ≤ p ∧ p ≤ 2147483647) := ⟨hp3, hpm⟩
  have HTT := hid ht
  -- the states
  have hRk := hR.kids
  have hxp := tsz_ps x
  have hyp := tsz_ps y
  have hup := tsz_ps u
  have hVx := RmL.vb (p := p) (z := z) hRk
  have e1 := LeL.v (q := kfO p z x) (fun to s => tlP_le p z x to s) s
  have u1 := SubM.v (q := kfO p z x) (fun to s => tlP_sub p z x to s) s
  obtain ⟨q, hq⟩ : ∃ q, q = ((kfO p z x).v s).1 := ⟨_, rfl⟩
  obtain ⟨s1, hs1⟩ : ∃ s1, s1 = ((kfO p z x).v s).2 := ⟨_, rfl⟩
  rw [← hq] at hVx
  rw [← hs1] at e1 u1
  obtain ⟨s2, hs2⟩ : ∃ s2, s2 = s1.lv := ⟨_, rfl⟩
  have l2 : s2.L.length = s1.L.length + 1 := by rw [hs2]; simp [LwS.lv]
  have c2 : s2.cells = s1.cells := by rw [hs2]; rfl
  have k2 : s2.cl.length = s1.cl.length := by rw [hs2]; rfl
  have m2 : s2.M = s1.M := by rw [hs2]; rfl
  have e3 := tlP_le p z y to s2
  have u3 := tlP_sub p z y to s2
  obtain ⟨s3, hs3⟩ : ∃ s3, s3 = tlP p z y to s2 := ⟨_, rfl⟩
  rw [← hs3] at e3 u3
  obtain ⟨s4, hs4⟩ : ∃ s4, s4 = s3.lv := ⟨_, rfl⟩
  have l4 : s4.L.length = s3.L.length + 1 := by rw [hs4]; simp [LwS.lv]
  obtain ⟨n1, hn1⟩ : ∃ n1, n1 = s1.L.length := ⟨_, rfl⟩
  obtain ⟨n3, hn3⟩ : ∃ n3, n3 = s3.L.length := ⟨_, rfl⟩
  obtain ⟨n4, hn4⟩ : ∃ n4, n4 = s4.L.length := ⟨_, rfl⟩
  obtain ⟨s5, hs5⟩ : ∃ s5, s5 = s4.fl p n1 9 q n4 0 := ⟨_, rfl⟩
  have l5 : s5.L.length = n4 := by rw [hs5, hn4]; simp [LwS.fl]
  have c5 : s5.cells = s3.cells := by rw [hs5, hs4]; rfl
  have m5 : s5.M = s3.M := by rw [hs5, hs4]; rfl
  have k5 : s5.cl.length = s3.cl.length := by rw [hs5, hs4]; rfl
  obtain ⟨d1, hd1⟩ : ∃ d1, d1 = s1.cells := ⟨_, rfl⟩
  obtain ⟨d5, hd5⟩ : ∃ d5, d5 = s5.cells := ⟨_, rfl⟩
  obtain ⟨s6, hs6⟩ : ∃ s6, s6 = s5.sC d1 := ⟨_, rfl⟩
  have l6 : s6.L.length = n4 := by rw [hs6]; exact l5
  have c6 : s6.cells = d1 := by rw [hs6]; rfl
  have m6 : s6.M = s3.M := by rw [hs6]; exact m5
  have k6 : s6.cl.length = s3.cl.length := by rw [hs6]; exact k5
  have e7 := tlP_le p z u to s6
  obtain ⟨s7, hs7⟩ : ∃ s7, s7 = tlP p z u to s6 := ⟨_, rfl⟩
  rw [← hs7] at e7
  obtain ⟨n7, hn7⟩ : ∃ n7, n7 = s7.L.length := ⟨_, rfl⟩
  obtain ⟨d7, hd7⟩ : ∃ d7, d7 = s7.cells := ⟨_, rfl⟩
  have HEQ : Hid (ifL p (kfO p z y) (kfO p z u) to ((kfO p z x).v s).1 ((kfO p z x).v s).2 = (s7.fl p n3 8 n7 0 0).sC (max d7 d5)) := by
    unfold Hid ifL
    rw [← hq, ← hs1]
    simp only [kfO]
    rw [← hs2, ← hs3, ← hs4, ← hn1, ← hn4, ← hs5, ← hd1, ← hs6, ← hs7, ← hn3, ← hn7, ← hd7, ← hd5]
  have hrl := hR.l
  have hrc := hR.c
  have hrk := hR.k
  have f1 := e1.l1; have f2 := e1.c1; have f3 := e1.k1
  have g0 := e3.l0; have g1 := e3.l1; have g2 := e3.c1; have g3 := e3.k1; have g4 := e3.c0
  have h0 := e7.l0; have h1 := e7.l1; have h2 := e7.c1; have h3 := e7.c0
  have HR2 : Hid (RmT s2 (tsz y)) := ⟨by omega, by omega, by omega, fun a v e => hR.m a v (u1 a v (by rw [← m2]; exact e))⟩
  have HR6 : Hid (RmT s6 (tsz u)) := ⟨by omega, by omega, by omega, fun a v e => hR.m a v (u1 a v (by rw [← m2]; exact u3 a v (by rw [← m6]; exact e)))⟩
  have hN : n1 < n4 ∧ n3 < n7 ∧ n4 ≤ 1000000 ∧ n7 ≤ 1000000 ∧ d1 ≤ 1000000 ∧ d5 ≤ 1000000 ∧ d7 ≤ 1000000 := by omega
  have HN := hid hN
  have HL1 : Hid (∀ W, LoW p N fd wr fb W s1 → Calls Tryz.prog 67 #[.pointer (some ⟨wr, 0, none⟩)] W fun e w' => e = .returned (.int .i64 (n1 : Int)) ∧ LoW p N fd wr fb w' s2 ∧ LoK false none N W w') := fun W h => by
    have := leave_any p N fd wr fb s1 W h (by omega)
    rw [← hn1, ← hs2] at this
    exact this.mono fun e w' ⟨a, b, c, _⟩ => ⟨a, b, c⟩
  have HL3 : Hid (∀ W, LoW p N fd wr fb W s3 → Calls Tryz.prog 67 #[.pointer (some ⟨wr, 0, none⟩)] W fun e w' => e = .returned (.int .i64 (n3 : Int)) ∧ LoW p N fd wr fb w' s4 ∧ LoK false none N W w') := fun W h => by
    have := leave_any p N fd wr fb s3 W h (by omega)
    rw [← hn3, ← hs4] at this
    exact this.mono fun e w' ⟨a, b, c, _⟩ => ⟨a, b, c⟩
  have HF4 : Hid (∀ W, LoW p N fd wr fb W s4 → Calls Tryz.prog 50 #[.pointer (some ⟨wr, 0, none⟩), .int .i64 (n1 : Int), .int .i64 9, .int .i64 q, .int .i64 (n4 : Int), .int .i64 0] W fun e w' => (∃ v, e = .returned v) ∧ LoW p N fd wr fb w' s5 ∧ LoK false none N W w' ∧ w'.cell? ⟨wr, 1, none⟩ = W.cell? ⟨wr, 1, none⟩) := fun W h => by
    rw [hs5]
    exact fill_any p N fd wr fb n1 9 q n4 0 s4 W hp3 hpm h (by omega) (by omega) (i64_of hVx) (i64_of (by omega)) (i64_of (by omega))
  have HF7 : Hid (∀ W, LoW p N fd wr fb W s7 → Calls Tryz.prog 50 #[.pointer (some ⟨wr, 0, none⟩), .int .i64 (n3 : Int), .int .i64 8, .int .i64 (n7 : Int), .int .i64 0, .int .i64 0] W fun e w' => (∃ v, e = .returned v) ∧ LoW p N fd wr fb w' (s7.fl p n3 8 n7 0 0) ∧ LoK false none N W w' ∧ w'.cell? ⟨wr, 1, none⟩ = W.cell? ⟨wr, 1, none⟩) := fun W h =>
    fill_any p N fd wr fb n3 8 n7 0 0 s7 W hp3 hpm h (by omega) (by omega) (i64_of (by omega)) (i64_of (by omega)) (i64_of (by omega))
  have HO4 : Hid (∀ W, LoW p N fd wr fb W s4 → ∃ ag cap, W.cell? ⟨wr, 1, none⟩ = some (.slice ag n4 cap)) := fun W h => by
    obtain ⟨g, cap, cv, g3, _, _⟩ := h.own (by omega)
    exact ⟨some ⟨g, 0, none⟩, cap, by rw [hn4]; simp [World.cell?, g3]⟩
  have HO7 : Hid (∀ W, LoW p N fd wr fb W s7 → ∃ ag cap, W.cell? ⟨wr, 1, none⟩ = some (.slice ag n7 cap)) := fun W h => by
    obtain ⟨g, cap, cv, g3, _, _⟩ := h.own (by omega)
    exact ⟨some ⟨g, 0, none⟩, cap, by rw [hn7]; simp [World.cell?, g3]⟩
  have HD1 : Hid (∀ W, LoB p N fd wr fb b Mb z W s2 → W.cell? ⟨b, 3, none⟩ = some (.int .i64 (d1 : Int))) := fun W h => by rw [hd1, ← c2]; exact h.cells4.2.2.2
  have HD0 : Hid (∀ W, LoB p N fd wr fb b Mb z W s1 → W.cell? ⟨b, 3, none⟩ = some (.int .i64 (d1 : Int))) := fun W h => by rw [hd1]; exact h.cells4.2.2.2
  have HD5 : Hid (∀ W, LoB p N fd wr fb b Mb z W s5 → W.cell? ⟨b, 3, none⟩ = some (.int .i64 (d5 : Int)) ∧ LoB p N fd wr fb b Mb z (W.setCell ⟨b, 3, none⟩ (.int .i64 (d1 : Int))) s6 ∧ LoK true (some Mb) N W (W.setCell ⟨b, 3, none⟩ (.int .i64 (d1 : Int)))) := fun W h => by rw [hd5, hs6]; exact ⟨h.cells4.2.2.2, h.set d1⟩
  have HD7 : Hid (∀ W, LoB p N fd wr fb b Mb z W (s7.fl p n3 8 n7 0 0) → W.cell? ⟨b, 3, none⟩ = some (.int .i64 (d7 : Int)) ∧ LoB p N fd wr fb b Mb z (W.setCell ⟨b, 3, none⟩ (.int .i64 ((max d7 d5 : Nat) : Int))) ((s7.fl p n3 8 n7 0 0).sC (max d7 d5)) ∧ LoK true (some Mb) N W (W.setCell ⟨b, 3, none⟩ (.int .i64 ((max d7 d5 : Nat) : Int)))) := fun W h => by
    have e : (s7.fl p n3 8 n7 0 0).cells = d7 := hd7.symm
    exact ⟨by rw [← e]; exact h.cells4.2.2.2, h.set (max d7 d5)⟩
  have HT3 : Hid (∀ W lo vs, LoB p N fd wr fb b Mb z W s2 → ShP lo W y vs → Calls Tryz.prog 70 #[.pointer (some ⟨b, 0, none⟩), .agg vs.toArray, .int .i64 to] W fun e w' => (∃ v, e = .returned v) ∧ LoB p N fd wr fb b Mb z w' s3 ∧ LoK true (some Mb) N W w') := fun W lo vs h h' => by rw [hs3]; exact HTy to s2 W lo vs h h' HR2.out ht.1 ht.2
  have HT7 : Hid (∀ W lo vs, LoB p N fd wr fb b Mb z W s6 → ShP lo W u vs → Calls Tryz.prog 70 #[.pointer (some ⟨b, 0, none⟩), .agg vs.toArray, .int .i64 to] W fun e w' => (∃ v, e = .returned v) ∧ LoB p N fd wr fb b Mb z w' s7 ∧ LoK true (some Mb) N W w') := fun W lo vs h h' => by rw [hs7]; exact HTu to s6 W lo vs h h' HR6.out ht.1 ht.2
  have HS2 : Hid (s2.cells = s1.cells ∧ s2.M = s1.M) := ⟨c2, m2⟩
  have HS4 : Hid (s4.cells = s3.cells ∧ s4.M = s3.M) := by rw [hs4]; exact ⟨rfl, rfl⟩
  have HS5 : Hid (s5.cells = s4.cells ∧ s5.M = s4.M) := by rw [hs5]; exact ⟨rfl, rfl⟩
  obtain ⟨g, v0, v1, v2, v3, ha, hrow, hsp⟩ := HI0.out.row 0 x rfl
  subst ha
  rw [Nat.zero_mul] at hrow
  obtain ⟨c0, c1, c2', c3⟩ := hrow.four
  simp only [Nat.zero_add] at c1 c2' c3
  obtain ⟨y0, y1, y2, y3⟩ := HI0.out.bx.four
  have HC : Hid (Calls Tryz.prog 49 #[.pointer (some ⟨b, 0, none⟩), .agg #[v0, v1, v2, v3]] W0 fun e w' => e = .returned (.int .i64 q) ∧ LoB p N fd wr fb b Mb z w' s1 ∧ LoK true (some Mb) N W0 w') := by
    rw [hq, hs1]
    exact HVx s W0 lo _ HI0.out.lb hsp (hRk.less (by omega))
  clear hB hS hPB hW0 hR hRk hxp hyp hup hVx e1 u1 hq hs1 hs2 l2 c2 k2 m2 e3 u3 hs3 hs4 l4 hn1 hn3 hn4 hs5 l5 c5 m5 k5 hd1 hd5 hs6 l6 c6 m6 k6 e7 hs7 hn7 hd7 hrl hrc hrk f1 f2 f3 g0 g1 g2 g3 g4 h0 h1 h2 h3 hN HVx HTy HTu hp3 hpm ht hrow hsp y0 y1 y2
  go_enter Tryz.func90, Tryz.ntmps90
  go_wp2_with (rw [← HW0.out, ← HPB.out])
  refine HC.out.mono ?_
  rintro e w1 ⟨rfl, hb1, hk1⟩
  have HI1 := hid (HI0.out.step hb1 hk1)
  have HLV := hid (HL1.out w1 hb1.wr')
  have b0 := hb1.cells4.1
  have b3 := HD0.out w1 hb1
  clear c0 c1 c2' c3 y3 hb1 hk1 HC HL1
  go_wp2_with fail
  refine HLV.out.mono ?_
  rintro e w2 ⟨rfl, hw2, hk2⟩
  have HI2 := hid (HI1.out.step (HI1.out.lb.step hw2 hk2 HS2.out.1 HS2.out.2) hk2.wide)
  obtain ⟨g2, u0, u1, u2, u3, ha, hrow, hsp⟩ := HI2.out.row 1 y rfl
  injection ha with ha
  injection ha with ha
  subst ha
  rw [Nat.one_mul] at hrow
  obtain ⟨c0, c1, c2, c3⟩ := hrow.four
  simp only [Nat.reduceAdd] at c1 c2 c3
  obtain ⟨y0, y1, y2, y3⟩ := HI2.out.bx.four
  have HTC := hid (HT3.out w2 lo _ HI2.out.lb hsp)
  clear hrow hsp y0 y1 y2 hw2 hk2 b0 b3 HLV HT3
  go_wp2_with fail
  refine HTC.out.mono ?_
  rintro e w3 ⟨⟨vv, rfl⟩, hb3, hk3⟩
  have HI3 := hid (HI2.out.step hb3 hk3)
  have HLV := hid (HL3.out w3 hb3.wr')
  have b0 := hb3.cells4.1
  clear c0 c1 c2 c3 y3 hb3 hk3 HTC HL3
  go_wp2_with fail
  refine HLV.out.mono ?_
  rintro e w4 ⟨rfl, hw4, hk4⟩
  have HI4 := hid (HI3.out.step (HI3.out.lb.step hw4 hk4 HS4.out.1 HS4.out.2) hk4.wide)
  obtain ⟨ag4, cap4, hls4⟩ := HO4.out w4 hw4
  have HLS := hid hls4
  clear hw4 hk4 b0 HLV HO4 hls4
  go_wp2_with fail
  refine wp_region_held_drew (S := fun W => ((W.cell? ⟨b, 0, none⟩ = some (.pointer (some ⟨wr, 0, none⟩)) ∧ W.cell? ⟨b, 1, none⟩ = some (.map (some Mb)) ∧ W.cell? ⟨b, 2, none⟩ = some (.int .i64 z)) ∧ W.cell? ⟨PB, 0, none⟩ = some (.int .i64 kz) ∧ W.cell? ⟨PB, 1, none⟩ = some (.string (bs nm)) ∧ W.cell? ⟨PB, 2, none⟩ = some (.int .i64 (num : Int)) ∧ W.cell? ⟨PB, 3, none⟩ = some (.slice (some ⟨g, 0, none⟩) 3 c)) ∧ W.cell? ⟨wr, 1, none⟩ = some (.slice ag4 n4 cap4)) hmx (⟨HI4.out.drew.all, HLS.out⟩) (fun hHeld => ?_)
  refine tkA 0 (.pointer (some ⟨b, 0, none⟩)) ?_
  simp only [putX]
  refine tkA 1 (.pointer (some ⟨b, 0, none⟩)) ?_
  simp only [putX]
  refine tkA 2 (.pointer (some ⟨b, 0, none⟩)) ?_
  simp only [putX]
  refine tkA 3 (.pointer (some ⟨wr, 0, none⟩)) ?_
  simp only [putX]
  refine tkA 4 (.int .i64 (n1 : Int)) ?_
  simp only [putX]
  refine tkA 5 (.int .i64 q) ?_
  simp only [putX]
  refine tkA 6 (.pointer (some ⟨b, 0, none⟩)) ?_
  simp only [putX]
  refine tkA 7 (.pointer (some ⟨b, 0, none⟩)) ?_
  simp only [putX]
  refine tkA 8 (.pointer (some ⟨b, 0, none⟩)) ?_
  simp only [putX]
  refine tkA 9 (.pointer (some ⟨wr, 0, none⟩)) ?_
  simp only [putX]
  refine tkA 10 (.pointer (some ⟨wr, 0, none⟩)) ?_
  simp only [putX]
  refine tkA 11 (.pointer (some ⟨wr, 1, none⟩)) ?_
  simp only [putX]
  refine tkA 12 (.slice ag4 n4 cap4) ?_
  simp only [putX]
  refine tkA 13 (.int .i64 (n4 : Int)) ?_
  simp only [putX]
  refine rdA 14 fun K' hK' => ?_
  go_simp
  refine (HF4.out _ HI4.out.drew.lb.wr').mono ?_
  rintro e w5 ⟨⟨v, rfl⟩, hw5, hk5, hq5⟩
  have HI5 := hid (HI4.out.drew.step (HI4.out.drew.lb.step hw5 hk5 HS5.out.1 HS5.out.2) hk5.wide)
  have HQ5 := hid hq5
  clear hw5 hk5 hq5
  refine hK'.out _ _ (⟨HI5.out.all, HQ5.out.trans HLS.out⟩) (fun hHeld => ?_)
  clear hK' K'
  refine wpAnyH_done (by kernel_rfl) ?_ _
  obtain ⟨b3, hlb6, hlk6⟩ := HD5.out w5 HI5.out.lb
  have f3 : w5.frozen? ⟨b, 3, none⟩ = false := by simp [World.frozen?, HI5.out.lb.body]
  obtain ⟨W6, hW6⟩ : ∃ W, W = w5.setCell ⟨b, 3, none⟩ (.int .i64 (d1 : Int)) := ⟨_, rfl⟩
  rw [← hW6] at hlb6 hlk6
  have HI6 := hid (HI5.out.step hlb6 hlk6)
  have HW6 := hid hW6
  obtain ⟨g6, u0, u1, u2, u3, ha, hrow, hsp⟩ := HI6.out.row 2 u rfl
  injection ha with ha
  injection ha with ha
  subst ha
  obtain ⟨c0, c1, c2, c3⟩ := hrow.four
  simp only [Nat.reduceMul, Nat.reduceAdd] at c0 c1 c2 c3
  obtain ⟨y0, y1, y2, y3⟩ := HI6.out.bx.four
  have HTC := hid (HT7.out W6 lo _ HI6.out.lb hsp)
  clear hrow hsp y0 y1 y2 hlb6 hlk6 HT7 HLS HF4 HQ5
  clear hW6
  go_wp2_with (rw [← HW6.out])
  refine HTC.out.mono ?_
  rintro e w7 ⟨⟨vv, rfl⟩, hb7, hk7⟩
  have HI7 := hid (HI6.out.step hb7 hk7)
  obtain ⟨ag7, cap7, hls7⟩ := HO7.out w7 hb7.wr'
  have HLS := hid hls7
  clear c0 c1 c2 c3 y3 hb7 hk7 HTC HO7 hls7 b3 f3
  go_wp2_with fail
  refine wp_region_held_drew (S := fun W => ((W.cell? ⟨b, 0, none⟩ = some (.pointer (some ⟨wr, 0, none⟩)) ∧ W.cell? ⟨b, 1, none⟩ = some (.map (some Mb)) ∧ W.cell? ⟨b, 2, none⟩ = some (.int .i64 z)) ∧ W.cell? ⟨PB, 0, none⟩ = some (.int .i64 kz) ∧ W.cell? ⟨PB, 1, none⟩ = some (.string (bs nm)) ∧ W.cell? ⟨PB, 2, none⟩ = some (.int .i64 (num : Int)) ∧ W.cell? ⟨PB, 3, none⟩ = some (.slice (some ⟨g, 0, none⟩) 3 c)) ∧ W.cell? ⟨wr, 1, none⟩ = some (.slice ag7 n7 cap7)) hmx (⟨HI7.out.drew.all, HLS.out⟩) (fun hHeld => ?_)
  refine tkA 0 (.pointer (some ⟨b, 0, none⟩)) ?_
  simp only [putX]
  refine tkA 1 (.pointer (some ⟨b, 0, none⟩)) ?_
  simp only [putX]
  refine tkA 2 (.pointer (some ⟨b, 0, none⟩)) ?_
  simp only [putX]
  refine tkA 3 (.pointer (some ⟨wr, 0, none⟩)) ?_
  simp only [putX]
  refine tkA 4 (.int .i64 (n3 : Int)) ?_
  simp only [putX]
  refine tkA 5 (.pointer (some ⟨b, 0, none⟩)) ?_
  simp only [putX]
  refine tkA 6 (.pointer (some ⟨b, 0, none⟩)) ?_
  simp only [putX]
  refine tkA 7 (.pointer (some ⟨b, 0, none⟩)) ?_
  simp only [putX]
  refine tkA 8 (.pointer (some ⟨wr, 0, none⟩)) ?_
  simp only [putX]
  refine tkA 9 (.pointer (some ⟨wr, 0, none⟩)) ?_
  simp only [putX]
  refine tkA 10 (.pointer (some ⟨wr, 1, none⟩)) ?_
  simp only [putX]
  refine tkA 11 (.slice ag7 n7 cap7) ?_
  simp only [putX]
  refine tkA 12 (.int .i64 (n7 : Int)) ?_
  simp only [putX]
  refine rdA 13 fun K' hK' => ?_
  go_simp
  refine (HF7.out _ HI7.out.drew.lb.wr').mono ?_
  rintro e w8 ⟨⟨v, rfl⟩, hw8, hk8, hq8⟩
  have HI8 := hid (HI7.out.drew.step (HI7.out.drew.lb.step hw8 hk8 rfl rfl) hk8.wide)
  have HQ8 := hid hq8
  clear hw8 hk8 hq8
  refine hK'.out _ _ (⟨HI8.out.all, HQ8.out.trans HLS.out⟩) (fun hHeld => ?_)
  clear hK' K'
  refine wpAnyH_done (by kernel_rfl) ?_ _
  obtain ⟨b3, hlb9, hlk9⟩ := HD7.out w8 HI8.out.lb
  have f3 : w8.frozen? ⟨b, 3, none⟩ = false := by simp [World.frozen?, HI8.out.lb.body]
  have hmax : max (d7 : Int) (d5 : Int) = ((max d7 d5 : Nat) : Int) := by omega
  obtain ⟨W9, hW9⟩ : ∃ W, W = w8.setCell ⟨b, 3, none⟩ (.int .i64 ((max d7 d5 : Nat) : Int)) := ⟨_, rfl⟩
  rw [← hW9] at hlb9 hlk9
  have HI9 := hid (HI8.out.step hlb9 hlk9)
  have HW9 := hid hW9
  clear hlb9 hlk9 hW9 HLS HF7 HQ8
  go_wp2_with (rw [← HW9.out])
  go_end0
  exact ⟨⟨_, rfl⟩, by rw [HEQ.out]; exact HI9.out.lb, HI9.out.lk⟩

end Go.Proofs.YtmmgkdcojkmlcaaGreatDoor
