/- FieldInvs: for every number and every list the law answers true: of any list what makes 1 of each is told as the document says, and the list stays as it was. Package errors own variable errorType reads as its text lays it (tied). -/
import Derived.Test.YtdcpahiljchehabDoorLawE
import Derived.Test.YtdcpahiljchehabDoorHandle
import Derived.Test.YtdcpahiljchehabDoorTie
import Derived.Test.YtdcpahiljchehabDoorCards
import Derived.SevenTiedAt
import Derived.SizedLaws
import Derived.ChangeOld
namespace Go.Proofs.YtdcpahiljchehabDoor
open Go.ChangeShapes Go.WideShapes Go.RowKit

set_option maxRecDepth 100000 in
theorem fieldInvs_lifted (os : Os) (started : os.Started) (H : Type) (enc : TypeId × Value → H) :
    ReturnsInHanded {} Tryd.checked os 3 .any (fun w args => (Rows.fieldInvsSpec.pre enc Tryd.prog Tryd.f3 [] false w args ∧ laidMetH Tryd.prog laidList w) ∧ sizedMet enc Tryd.prog Tryd.f3 (OpenSpec.ofChange Rows.fieldInvsSpec) false w args)
      (Rows.fieldInvsSpec.post enc Tryd.prog Tryd.f3 false true false false) := by
  refine returnsInHanded_of_change_and (C := Tryd.checked) (X := fun w _ => laidMetH Tryd.prog laidList w) (fun _ _ _ hh h => h.of_heap hh) own started (by kernel_rfl) Tryd.func3
    (ChangeSpec.witness_at (enc := enc) (C := Tryd.checked) (os := os) (X := fun w _ => laidMetH Tryd.prog laidList w) false ({ World.holding Tryd.prog os ⟨#[], #[], []⟩ with heap := (World.holding Tryd.prog os ⟨#[], #[], []⟩).heap.modify 0 fun
      | .cells _ t frozen => .cells #[.iface 68 (.agg #[.pointer (some ⟨1, 31, none⟩)])] t frozen
      | o => o } : World) #[.int .i64 0, .slice none 0 0] 8 rfl (by kernel_rfl) (by kernel_rfl) (by kernel_rfl) (by kernel_rfl) (by kernel_rfl) (laidMetH_of_parts (laidMet_nil _ _) (by kernel_rfl))) ?_
  intro W base args ds gs before hval0 hW _ hsz hL _
  have hval : ∀ (j : Nat) t v, Tryd.f3.params[j]? = some t → args[j]? = some v → Value.okWide Tryd.prog W .any base t v := hval0
  have hW' := hW
  obtain ⟨p, q, hA0, hV0, rfl, hfz, hnd⟩ := hW
  have hA : DataW.TrodAll enc Tryd.prog W 0 (fun _ => true) true Tryd.f3.params.toList args.toList ds p := hA0
  have hV : DataW.TrodVars enc Tryd.prog W (fun _ => true) [] gs q := hV0
  rw [Tryd.params3] at hA hval
  obtain ⟨v0, v1, d0, d1, p0, p1, rfl, rfl, rfl, h0, h1⟩ := trodAll_two hA
  obtain ⟨a0, rfl, rfl, rfl, w0⟩ := open_int Tryd.underlying3 (hval 0 3 v0 rfl rfl) h0
  obtain ⟨a1, len1, cap1, rfl⟩ := okWide_slice Tryd.underlying22 (hval 1 22 v1 rfl rfl)
  have k1 := h1
  have lt1 : ∀ x ∈ p1, x.block < W.heap.size := by obtain ⟨m, hm⟩ := k1; exact DataW.trod_lt m _ _ _ hm
  have hg := handle_of_laid hL
  obtain ⟨rfl, rfl⟩ : gs = [] ∧ q = [] := by
    cases gs with
    | nil => exact ⟨rfl, hV⟩
    | cons g r => exact absurd hV (by intro h; cases h)
  obtain ⟨zs, hl1, hz1, hr1, hn1, hb1⟩ : ∃ zs : List Int, len1 = zs.length ∧ zs.length * 8 ≤ 140737488351232 ∧ RowB W.heap.size W a1 zs ∧ (a1 = none → zs.length = 0 ∧ cap1 = 0) ∧ (∀ j, j < zs.length → -9223372036854775808 ≤ zat zs j ∧ zat zs j ≤ 9223372036854775807) := by
    obtain ⟨fuel, hf⟩ := h1
    rcases open_ints Tryd.underlying22 Tryd.underlying3 (by kernel_rfl) hf with ⟨hcs, _⟩ | ⟨x, l, c, zs, hcs, _, hl, hm, hz, hx, hcell, hwz⟩
    · simp [Value.cells] at hcs
      obtain ⟨rfl, rfl, rfl⟩ := hcs
      exact ⟨[], rfl, by simp, fun k hk => by simp at hk, fun _ => ⟨rfl, rfl⟩, fun j hj => by simp at hj⟩
    · simp [Value.cells] at hcs
      obtain ⟨rfl, rfl, rfl⟩ := hcs
      have hzc : zs.length = cap1 := by simpa using hz
      have htk : (zs.take len1).length = len1 := by simp; omega
      simp only [Prod.mk.injEq] at hx
      obtain ⟨rfl, _⟩ := hx
      refine ⟨zs.take len1, htk.symm, ?_, ?_, (fun h => by cases h), ?_⟩
      · have hs := sized_slice (j := 1) (t := 22) (e := 3) hsz (by kernel_rfl) rfl Tryd.underlying22
        rw [show Tryd.checked.prog.bytesOf 3 = 8 from by kernel_rfl] at hs
        simp [lits, reachBytes] at hs
        rw [htk]
        omega
      · intro k hk
        rw [htk] at hk
        obtain ⟨b, off, rfl, hc⟩ := ints_at hcell (by omega)
        refine ⟨b, off, rfl, ?_, ?_⟩
        · have := hc k (by omega)
          rcases Nat.lt_or_ge b W.heap.size with g | g
          · exact g
          · simp [World.cell?, Array.getElem?_eq_none g] at this
        · rw [hc k (by omega)]
          simp [zat, hk, show k < zs.length from by omega]
      · intro j hj
        rw [htk] at hj
        have hmem : zat (zs.take len1) j ∈ zs := by
          have : zat (zs.take len1) j = zs[j]'(by omega) := by simp [zat, hj, show j < zs.length from by omega]
          rw [this]; exact List.getElem_mem _
        exact wf_bounds (hwz _ hmem)
  subst hl1
  refine (invs_walk a0 a1 cap1 zs W hg (wf_bounds w0).1 (wf_bounds w0).2 hz1 hb1 hr1 hn1).mono fun e W' ⟨he, hb⟩ => ?_
  subst he
  exact ⟨_, rfl, _, _, _, [], _, [], hW', trodAll_mk1 (shut_bool Tryd.underlying4 true), trodAll_cons_mk (shut_int Tryd.underlying3 w0) (trodAll_cons_mk (Below.trod laidOut (by kernel_rfl) (of_decide_eq_true (by kernel_rfl)) k1 hb lt1) trodAll_mk0), rfl, hb.frame _, fun h => by cases h⟩

theorem fieldInvs_row : Rows.FieldInvsSaid :=
  OpenClaim.holds_of_wide 3 Tryd.f3 rfl rfl rfl rfl rfl rfl rfl ⟨rfl, rfl, rfl, rfl, rfl⟩ rfl rfl rfl rfl rfl (by kernel_rfl) Tryd.func3 (by kernel_rfl)
    (of_decide_eq_true (by kernel_rfl)) (by unfold Func.isWrapper; rw [if_neg (of_decide_eq_false (by kernel_rfl))]; exact ⟨rfl, rfl⟩)
    (fun os started H enc _ => fieldInvs_lifted os started H enc)

theorem fieldInvs_card : Rows.FieldInvsCardSaid :=
  Claim7.holds_tied_plain_at .later [] [.handle] true (true, "6082c909543f2b8865e415655b661c9be3c0c68a62f9a4933951c7881125dd60") true
    fieldInvs_row (fun _ h => by cases h) (by kernel_rfl) (fun _ h => by cases h) fieldInvs_row_tie rfl ⟨rfl, rfl⟩ (by kernel_rfl) rfl
    (fun f fn hf hfn => by
      obtain rfl : f = 3 := Option.some.inj ((show Tryd.prog.funcNamed Rows.fieldInvsRow.func = some 3 by kernel_rfl).symm.trans hf) |>.symm
      obtain rfl : fn = Tryd.f3 := (Option.some.inj (Tryd.func3.symm.trans hfn)).symm
      exact ⟨by kernel_rfl, fun j t ht => by
        rw [Tryd.params3] at ht
        have h3 : t = 3 ∨ t = 22 := by
          match j, ht with
          | 0, ht => left; simpa using ht.symm
          | 1, ht => right; simpa using ht.symm
          | n + 2, ht => simp at ht
        rcases h3 with rfl | rfl
        · exact (show Tryd.prog.wantsStandIn 3 = false by kernel_rfl)
        · exact (show Tryd.prog.wantsStandIn 22 = false by kernel_rfl)⟩)
    (by kernel_rfl)
#print axioms fieldInvs_card
end Go.Proofs.YtdcpahiljchehabDoor
