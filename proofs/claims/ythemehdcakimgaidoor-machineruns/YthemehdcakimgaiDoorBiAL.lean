/- Package machine: Walk; the document's, where the code is wrong. MachineWalks: the walk. -/
import Derived.Test.YthemehdcakimgaiDoorMahO
import Derived.Test.YthemehdcakimgaiDoorMacL
import Derived.Test.YthemehdcakimgaiDoorFld
namespace Go.Proofs.YthemehdcakimgaiDoor
open Go.RowKit Go.Maps

/-- what Walk gives -/
def WlR (p : Nat) (size : Int) (L : List InsZ) (limit : Int) (w : World) (e : Ending) (w' : World) : Prop := Below w.heap.size w w' ∧
  if fz6 (p : Int) size L.length limit ≠ 0 then e = .returned (.tuple #[.slice none 0 0, errV (fz6 (p : Int) size L.length limit)])
  else match mwalk p size L limit.toNat with
    | .bad z => e = .returned (.tuple #[.slice none 0 0, errV z])
    | .good l _ => ∃ v, e = .returned (.tuple #[v, .nilIface]) ∧ StR w.heap.size w' v l

theorem StR.mono {base base' : Nat} {w : World} {v : Value} {l : List (List Int)} (h : StR base w v l) (e : base' ≤ base) : StR base' w v l := by
  refine ⟨h.1, ?_⟩
  rcases h.2 with hn | ⟨g, cap, cur, h1, hb, rest⟩
  · exact .inl hn
  · exact .inr ⟨g, cap, cur, h1, Nat.le_trans e hb, rest⟩
theorem wdR_wlR {p : Nat} {size : Int} {L : List InsZ} {limit : Int} {w W W' : World} {e : Ending} (hb : Below w.heap.size w W) (h : WdR p size L limit W e W') : ∃ v1 v2 v3, e = .returned (.tuple #[v1, v2, v3]) ∧ WlR p size L limit w (.returned (.tuple #[v1, v3])) W' := by
  obtain ⟨h1, h2⟩ := h
  have hbb := hb.trans (h1.mono hb.size)
  by_cases hz : fz6 (p : Int) size L.length limit ≠ 0
  · rw [if_pos hz] at h2
    exact ⟨_, _, _, h2, hbb, by rw [if_pos hz]⟩
  · rw [if_neg hz] at h2
    cases hX : mwalk p size L limit.toNat with
    | bad z =>
      rw [hX] at h2
      exact ⟨_, _, _, h2, hbb, by rw [if_neg hz, hX]⟩
    | good l cs =>
      rw [hX] at h2
      obtain ⟨v, B, h3, h4, _⟩ := h2
      exact ⟨_, _, _, h3, hbb, by rw [if_neg hz, hX]; exact ⟨v, rfl, h4.mono hb.size⟩⟩

set_option maxRecDepth 100000 in
set_option maxHeartbeats 1000000 in
theorem pwalk_of (p b : Nat) (size limit : Int) (aL : Option Addr) (cL : Nat) (L : List InsZ) (w : World) (h : ∀ W, Below w.heap.size w W → Calls Tryd.prog 23 #[.pointer (some ⟨b, 0, none⟩), .agg #[.int .i64 size, .slice aL L.length cL], .int .i64 limit] W (WdR p size L limit W)) :
    Calls Tryd.prog 14 #[.pointer (some ⟨b, 0, none⟩), .agg #[.int .i64 size, .slice aL L.length cL], .int .i64 limit] w (WlR p size L limit w) := by
  have HH := hid h
  obtain ⟨nL, hnL⟩ : ∃ nL, nL = L.length := ⟨_, rfl⟩
  rw [← hnL] at HH ⊢
  clear h hnL
  go_enter Tryd.func14, Tryd.ntmps14
  go_wp2_with fail
  refine (HH.out _ ((Below.refl _ _).alloc (Nat.le_refl _) _)).mono ?_
  rintro e w1 hr1
  obtain ⟨v1, v2, v3, rfl, hE⟩ := wdR_wlR ((Below.refl w.heap.size w).alloc (Nat.le_refl _) _) hr1
  have HE := hid hE
  clear hr1 hE HH
  go_wp2_with fail
  go_ret2
  exact HE.out
/-- whatever the code and the limit -/
theorem pwalked_any (p b : Nat) (size limit : Int) (aL : Option Addr) (cL : Nat) (L : List InsZ) (w : World) (h3 : 3 ≤ p) (h4 : p ≤ 2147483647) (hpr : Num.Prime p) (hp : w.cell? ⟨b, 0, none⟩ = some (.int .i64 p)) (hn : L.length ≤ 281474976710656) (hL : LstI w.heap.size w aL cL L) (hIB : InsB L) :
    Calls Tryd.prog 23 #[.pointer (some ⟨b, 0, none⟩), .agg #[.int .i64 size, .slice aL L.length cL], .int .i64 limit] w (WdR p size L limit w) := by
  by_cases hz : fz6 (p : Int) size L.length limit = 0
  · have hl : 0 ≤ limit := by
      unfold fz6 at hz
      split at hz
      · omega
      · split at hz <;> omega
    obtain ⟨m, rfl⟩ := Int.eq_ofNat_of_zero_le hl
    exact pwalked_good p b size m aL cL L w h3 h4 hpr hp hz hL hIB
  · exact pwalked_bad p b size limit aL cL L w hp hn hz
theorem pwalk_any (p b : Nat) (size limit : Int) (aL : Option Addr) (cL : Nat) (L : List InsZ) (w : World) (h3 : 3 ≤ p) (h4 : p ≤ 2147483647) (hpr : Num.Prime p) (hp : w.cell? ⟨b, 0, none⟩ = some (.int .i64 p)) (hn : L.length ≤ 281474976710656) (hL : LstI w.heap.size w aL cL L) (hIB : InsB L) :
    Calls Tryd.prog 14 #[.pointer (some ⟨b, 0, none⟩), .agg #[.int .i64 size, .slice aL L.length cL], .int .i64 limit] w (WlR p size L limit w) :=
  pwalk_of p b size limit aL cL L w (fun W hb => pwalked_any p b size limit aL cL L W h3 h4 hpr ((hb.cell (p := ⟨b, 0, none⟩) (World.block_lt_of_cell? _ _ hp)).trans hp) hn ((hL.below hb).mono hb.size) hIB)

set_option maxRecDepth 100000 in
set_option maxHeartbeats 1000000 in
theorem rwalk_bad (p : Nat) (size limit : Int) (aL : Option Addr) (nL cL : Nat) (w : World) (hn : nL ≤ 281474976710656) (hz : fz6 (p : Int) size nL limit ≠ 0) :
    Calls Tryd.prog 15 #[.int .i64 p, .agg #[.int .i64 size, .slice aL nL cL], .int .i64 limit] w fun e w' => e = .returned (.tuple #[.slice none 0 0, .slice none 0 0, .int .i64 (fz6 (p : Int) size nL limit)]) ∧ Below w.heap.size w w' := by
  obtain ⟨W0, hW0⟩ : ∃ W0, W0 = w.alloc (.cells #[.int .i64 size, .slice aL nL cL] 24) := ⟨_, rfl⟩
  have hb0 : Below w.heap.size w W0 := by rw [hW0]; exact (Below.refl _ _).alloc (Nat.le_refl _) _
  have HC0 : Hid (W0.heap[w.heap.size]? = some (.cells #[.int .i64 size, .slice aL nL cL] 24 (0, 0))) := by unfold Hid; rw [hW0]; exact heap_alloc_new w _
  have HFT := hid (rfault6_any (p : Int) size limit nL cL aL W0 hn)
  have x0 : W0.cell? ⟨w.heap.size, 0, none⟩ = some (.int .i64 size) := by simp [World.cell?, HC0.out]
  have x1 : W0.cell? ⟨w.heap.size, 1, none⟩ = some (.slice aL nL cL) := by simp [World.cell?, HC0.out]
  have HB0 := hid hb0
  obtain ⟨z, hzz⟩ : ∃ z, z = fz6 (p : Int) size nL limit := ⟨_, rfl⟩
  rw [← hzz] at hz HFT ⊢
  have hq : (z != 0) = true := by simp [hz]
  clear hb0 hzz hz
  subst hW0
  go_enter Tryd.func15, Tryd.ntmps15
  go_wp2_with fail
  refine HFT.out.mono ?_
  rintro e w1 ⟨rfl, hb1⟩
  have HB1 := hid (HB0.out.trans (hb1.mono HB0.out.size))
  clear hb1 HFT HC0 HB0 x0 x1
  go_wp2_with fail
  go_ret3
  exact ⟨rfl, HB1.out⟩

end Go.Proofs.YthemehdcakimgaiDoor

namespace Go.Proofs.YthemehdcakimgaiDoor
open Go.RowKit Go.Maps

theorem stvs_int : ∀ (l : List (List Int)) (m : Nat), m < (stvs l).length → ∃ x, (stvs l)[m]? = some (.int .i64 x) := fun l m hm => by
  have h : ∀ v, v ∈ stvs l → ∃ x, v = .int .i64 x := fun v hv => by
    unfold stvs at hv
    obtain ⟨y, _, h2⟩ := List.mem_flatMap.1 hv
    obtain ⟨x, _, rfl⟩ := List.mem_map.1 h2
    exact ⟨x, rfl⟩
  obtain ⟨x, hx⟩ := h _ (List.getElem_mem hm)
  exact ⟨x, by rw [List.getElem?_eq_getElem hm, hx]⟩
/-- a row of steps, cell by cell -/
theorem StR.cells {base : Nat} {w : World} {v : Value} {l : List (List Int)} (h : StR base w v l) (h0 : 0 < l.length) : ∃ g cap, v = .slice (some ⟨g, 0, none⟩) l.length cap ∧ l.length ≤ maxLen ∧ ∀ m x, (stvs l)[m]? = some (.int .i64 x) → w.cell? ⟨g, m, none⟩ = some (.int .i64 x) := by
  have h' := h
  rcases h.2 with ⟨_, hn⟩ | ⟨g, cap, cur, rfl, hb, hg, hn, hm, hs, ht⟩
  · omega
  · refine ⟨g, cap, rfl, by omega, fun m x hx => ?_⟩
    have := World.ownsRow.cells h' (g := g) rfl m _ hx
    have hadd : (⟨g, 0, none⟩ : Addr).add m = ⟨g, 0 + m, none⟩ := by unfold Addr.add; split <;> simp_all
    rw [hadd, Nat.zero_add] at this
    exact this
theorem StR.form {base : Nat} {w : World} {v : Value} {l : List (List Int)} (h : StR base w v l) : ∃ a c, v = .slice a l.length c := by
  rcases h.2 with ⟨rfl, h0⟩ | ⟨g, cap, cur, rfl, _⟩
  · exact ⟨none, 0, by rw [h0]⟩
  · exact ⟨_, _, rfl⟩

/-- what the program's Walk gives, the document's gives -/
theorem walks_both {p : Nat} {size limit : Int} {aL : Option Addr} {cL : Nat} {L : List InsZ} {w w1 w2 : World} {e : Ending} (h3 : 3 ≤ p) (h4 : p ≤ 2147483647) (hn : L.length ≤ 281474976710656) (hl : LstI w.heap.size w aL cL L) (hIB : InsB L) (h : WlR p size L limit w1 e w2) :
    ∃ v1 z l, e = .returned (.tuple #[v1, errV z]) ∧ StR w1.heap.size w2 v1 l ∧ ∀ W, Below w.heap.size w W → Calls Tryd.prog 15 #[.int .i64 p, .agg #[.int .i64 size, .slice aL L.length cL], .int .i64 limit] W fun e' W' => ∃ v2 x, e' = .returned (.tuple #[v2, x, .int .i64 z]) ∧ StR W.heap.size W' v2 l ∧ Below W.heap.size W W' := by
  obtain ⟨_, h2⟩ := h
  by_cases hz : fz6 (p : Int) size L.length limit ≠ 0
  · rw [if_pos hz] at h2
    refine ⟨_, _, [], h2, World.ownsRow_nil _ _ _ _, fun W hb => (rwalk_bad p size limit aL L.length cL W hn hz).mono ?_⟩
    rintro e' W' ⟨rfl, hb'⟩
    exact ⟨_, _, rfl, World.ownsRow_nil _ _ _ _, hb'⟩
  · rw [if_neg hz] at h2
    have hz0 : fz6 (p : Int) size L.length limit = 0 := Decidable.byContradiction hz
    have hfz : 0 ≤ size ∧ size ≤ 65536 ∧ 0 < L.length ∧ L.length ≤ 4096 ∧ L.length ≤ p ∧ 0 ≤ limit ∧ limit ≤ 16384 := by
      unfold fz6 at hz0
      split at hz0
      · omega
      · split at hz0
        · omega
        · refine ⟨by omega, by omega, by omega, by omega, by omega, by omega, by omega⟩
    obtain ⟨m, rfl⟩ := Int.eq_ofNat_of_zero_le hfz.2.2.2.2.2.1
    rw [Int.toNat_natCast] at h2
    have hR := fun (W : World) (hb : Below w.heap.size w W) => rwalk_any p m cL size aL L W h3 h4 hfz.1 hfz.2.1 hfz.2.2.1 hfz.2.2.2.1 hfz.2.2.2.2.1 (by omega) hIB ((hl.below hb).mono hb.size)
    cases hX : mwalk p size L m with
    | bad z =>
      rw [hX] at h2 hR
      refine ⟨_, z, [], h2, World.ownsRow_nil _ _ _ _, fun W hb => (hR W hb).mono ?_⟩
      rintro e' W' ⟨hb', he⟩
      exact ⟨_, _, he, World.ownsRow_nil _ _ _ _, hb'⟩
    | good l cs =>
      rw [hX] at h2 hR
      obtain ⟨v, h5, h6⟩ := h2
      refine ⟨v, 0, l, h5, h6, fun W hb => (hR W hb).mono ?_⟩
      rintro e' W' ⟨hb', v1, v2, he, hs, _⟩
      exact ⟨v1, v2, he, hs, hb'⟩
theorem error_same (z : Int) (w : World) (hL : Laid w) : Calls Tryd.prog 11 #[errV z, .int .i64 z] w fun e w' => e = .returned (.bool true) ∧ Below w.heap.size w w' := by
  by_cases hz : z = 0
  · subst hz
    refine (error_nil 0 w).mono ?_
    rintro e w' ⟨rfl, rfl⟩
    exact ⟨rfl, Below.refl _ _⟩
  · rw [errV_nz hz]
    refine (error_hit z z w hL).mono ?_
    rintro e w' ⟨rfl, hb⟩
    exact ⟨by simp, hb⟩

theorem eqI_runM (n : Nat) (a : Int) (w : World) : (Op.equalIn (n + 1) 3 (.int .i64 a) (.int .i64 a)).run Tryd.prog w = .ok true w := by
  simp [Op.equalIn, run_underlying Tryd.underlying3, Result.andThen]
theorem part_runM (cs : Array Value) (i : Nat) (v : Value) (h : cs[i]? = some v) (w : World) : (part 3 cs i).run Tryd.prog w = .ok v w := by
  simp [part, Tryd.isAgg3, h, Result.andThen]
theorem eq3_runM (n : Nat) (a0 a1 a2 : Int) (w : World) : (Op.equalIn (n + 1 + 1) 47 (.agg #[.int .i64 a0, .int .i64 a1, .int .i64 a2]) (.agg #[.int .i64 a0, .int .i64 a1, .int .i64 a2])).run Tryd.prog w = .ok true w := by
  have e : ∀ (x : Int), (Op.equalIn (n + 1) 3 (.int .i64 x) (.int .i64 x)).run Tryd.prog w = .ok true w := fun x => eqI_runM n x w
  unfold Op.equalIn
  simp only [Sem.run_bind, run_underlying Tryd.underlying47, Result.andThen_ok, Tryd.sizeOf3]
  have p0 : ∀ (x0 x1 x2 : Value), (part 3 #[x0, x1, x2] (0 * 1)).run Tryd.prog w = .ok x0 w := fun x0 x1 x2 => part_runM _ _ _ rfl w
  have p1 : ∀ (x0 x1 x2 : Value), (part 3 #[x0, x1, x2] (1 * 1)).run Tryd.prog w = .ok x1 w := fun x0 x1 x2 => part_runM _ _ _ rfl w
  have p2 : ∀ (x0 x1 x2 : Value), (part 3 #[x0, x1, x2] (2 * 1)).run Tryd.prog w = .ok x2 w := fun x0 x1 x2 => part_runM _ _ _ rfl w
  rw [Std.Legacy.Range.forIn_eq_forIn_range']
  show ((Sem.run Tryd.prog (forIn [0, 1, 2] _ _) w).andThen _) = _
  simp only [List.forIn_cons, List.forIn_nil, Sem.run_bind, p0, e, Result.andThen_ok]
  simp [p1, p2, e, Result.andThen]
theorem neq_step (y0 y1 y2 y3 y4 y5 y6 y7 y8 y9 : Int) (w : World) : (binOp BinOp.neq 49 (.agg #[.int .i64 y0, .int .i64 y1, .int .i64 y2, .int .i64 y3, .int .i64 y4, .int .i64 y5, .int .i64 y6, .int .i64 y7, .int .i64 y8, .int .i64 y9]) (.agg #[.int .i64 y0, .int .i64 y1, .int .i64 y2, .int .i64 y3, .int .i64 y4, .int .i64 y5, .int .i64 y6, .int .i64 y7, .int .i64 y8, .int .i64 y9])).run Tryd.prog w = .ok (.bool false) w := by
  have e3 : ∀ (x y z : Int), (Op.equalIn 9999 47 (.agg #[.int .i64 x, .int .i64 y, .int .i64 z]) (.agg #[.int .i64 x, .int .i64 y, .int .i64 z])).run Tryd.prog w = .ok true w := fun x y z => eq3_runM 9997 x y z w
  simp [go_sem, e3]

set_option maxRecDepth 100000 in
set_option maxHeartbeats 4000000 in
/-- where there is a field -/
theorem mwalks_yes (q : Nat) (size limit : Int) (aL : Option Addr) (cL : Nat) (L : List InsZ) (w : World) (hL : Laid w) (h3 : 3 ≤ q) (h4 : q ≤ 2147483647) (hpr : Num.Prime q) (hn : L.length ≤ 281474976710656) (hl : LstI w.heap.size w aL cL L) (hIB : InsB L) :
    Calls Tryd.prog 4 #[.int .i64 q, .agg #[.int .i64 size, .slice aL L.length cL], .int .i64 limit] w fun e w' => e = .returned (.bool true) ∧ Below w.heap.size w w' := by
  have hmx : Tryd.prog.follows .mixedOrders = true := by kernel_rfl
  obtain ⟨W0, hW0⟩ : ∃ W0, W0 = w.alloc (.cells #[.int .i64 size, .slice aL L.length cL] 24) := ⟨_, rfl⟩
  have hb0 : Below w.heap.size w W0 := by rw [hW0]; exact (Below.refl _ _).alloc (Nat.le_refl _) _
  have HC0 : Hid (W0.heap[w.heap.size]? = some (.cells #[.int .i64 size, .slice aL L.length cL] 24 (0, 0))) := by unfold Hid; rw [hW0]; exact heap_alloc_new w _
  have HB0 := hid hb0
  have HF := hid (field_yes q W0 h3 h4 hpr)
  have HL := hid hl
  have HLD := hid hL
  have HIB := hid hIB
  have HPR := hid hpr
  have HNE := hid hn
  obtain ⟨nL, hnL⟩ : ∃ nL, nL = L.length := ⟨_, rfl⟩
  have HNL := hid hnL
  rw [← hnL] at HC0 hW0 ⊢
  clear hb0 hl hL hIB hpr hnL hn
  go_enter Tryd.func4, Tryd.ntmps4
  go_wp2_with fail
  rw [← hW0]
  refine HF.out.mono ?_
  rintro e w1 ⟨rfl, hc1, hb1, hlt1⟩
  have HB1 := hid (HB0.out.trans (hb1.mono HB0.out.size))
  have HC1 := hid ((hb1.block _ (Array.getElem?_eq_some_iff.1 HC0.out).1).trans HC0.out)
  have k0 : w1.cell? ⟨w.heap.size, 0, none⟩ = some (.int .i64 size) := by simp [World.cell?, HC1.out]
  have k1 : w1.cell? ⟨w.heap.size, 1, none⟩ = some (.slice aL nL cL) := by simp [World.cell?, HC1.out]
  have HWK := hid (pwalk_any q W0.heap.size size limit aL cL L w1 h3 h4 HPR.out hc1 HNE.out ((HL.out.below HB1.out).mono HB1.out.size) HIB.out)
  rw [← HNL.out] at HWK
  clear hc1 hb1 hlt1 HB0 HC0 HF hW0
  go_wp2_with fail
  refine HWK.out.mono ?_
  rintro e w2 hr2
  have hb2 := hr2.1
  have HB2 := hid (HB1.out.trans (hb2.mono HB1.out.size))
  have HC2 := hid ((hb2.block _ (Array.getElem?_eq_some_iff.1 HC1.out).1).trans HC1.out)
  have c0 : w2.cell? ⟨w.heap.size, 0, none⟩ = some (.int .i64 size) := by simp [World.cell?, HC2.out]
  have c1 : w2.cell? ⟨w.heap.size, 1, none⟩ = some (.slice aL nL cL) := by simp [World.cell?, HC2.out]
  obtain ⟨v1, z, l, rfl, hs2, hRW⟩ := walks_both h3 h4 HNE.out HL.out HIB.out hr2
  have HRW := hid (hRW w2 HB2.out)
  rw [← HNL.out] at HRW
  obtain ⟨a1, d1, hv1⟩ := hs2.form
  have HS2 := hid hs2
  clear HWK k0 k1 hb2 HC1 HB1 hr2 hs2 hRW
  obtain ⟨n, hn⟩ : ∃ n, n = l.length := ⟨_, rfl⟩
  have HN := hid hn
  rw [← hn] at hv1
  subst hv1
  clear hn
  have HES := hid (fun W (h : Laid W) => error_same z W h)
  generalize errV z = ev at *
  go_wp2_with fail
  refine HRW.out.mono ?_
  rintro e w3 ⟨v2, x, rfl, hs3, hb3⟩
  have HB3 := hid (HB2.out.trans (hb3.mono HB2.out.size))
  have HER := hid (HES.out w3 (HLD.out.below HB3.out))
  obtain ⟨a2, d2, hv2⟩ := hs3.form
  rw [← HN.out] at hv2
  subst hv2
  have HS3 := hid hs3
  have HS23 : Hid (∀ m x, (stvs l)[m]? = some (.int .i64 x) → ∃ g, a1 = some ⟨g, 0, none⟩ ∧ w3.cell? ⟨g, m, none⟩ = some (.int .i64 x)) := fun m y hm => by
    have h0 : 0 < l.length := by
      cases l with
      | nil => simp [stvs] at hm
      | cons a b => simp
    obtain ⟨g, cap, e1, _, e2⟩ := HS2.out.cells h0
    injection e1 with e1 _ _
    have := e2 m y hm
    exact ⟨g, e1, (hb3.cell (p := ⟨g, m, none⟩) (World.block_lt_of_cell? _ _ this)).trans this⟩
  have HS33 : Hid (∀ m x, (stvs l)[m]? = some (.int .i64 x) → ∃ g, a2 = some ⟨g, 0, none⟩ ∧ w3.cell? ⟨g, m, none⟩ = some (.int .i64 x)) := fun m y hm => by
    have h0 : 0 < l.length := by
      cases l with
      | nil => simp [stvs] at hm
      | cons a b => simp
    obtain ⟨g, cap, e1, _, e2⟩ := HS3.out.cells h0
    injection e1 with e1 _ _
    exact ⟨g, e1, e2 m y hm⟩
  have HLM : Hid (n ≤ maxLen ∧ (stvs l).length = n * 10) := by
    refine ⟨?_, by rw [HN.out]; exact HS3.out.1⟩
    rcases HS3.out.2 with ⟨_, h0⟩ | ⟨g, cap, cur, _, _, _, hn, hm, _⟩
    · rw [HN.out, h0]; exact Nat.zero_le _
    · rw [HN.out]; omega
  clear HRW hs3 hb3 HES HS2 HS3 c0 c1 HC2 HB2
  go_wp2_with fail
  refine HER.out.mono ?_
  rintro e w4 ⟨rfl, hb4⟩
  have HB4 := hid (HB3.out.trans (hb4.mono HB3.out.size))
  have HE4 := hid hb4
  clear hb4 HER HB3
  have hnn : ((n : Int) != (n : Int)) = false := by simp
  go_wp2_with fail
  go_loopw [15] (fun u wr => ∃ (i m : Nat), i ≤ n ∧ u = .int .i64 (i : Int) ∧ Hid (wr = w4.drewN m)) (fun u _ => n - (intOf u).toNat)
  case atStart => exact ⟨0, 0, Nat.zero_le _, rfl, rfl⟩
  case round =>
    obtain ⟨i, m, hi, rfl, HWr⟩ := hrel
    by_cases hlt : i < n
    · have hlt2 : (i : Int) < (n : Int) := by omega
      have hmx2 := HLM.out.1
      have his : IntKind.i64.wrap ((i : Int) + 1) = (i : Int) + 1 := by rw [IntKind.wrap_i64]; unfold maxLen at hmx2; omega
      have HV : Hid (∀ j, j < 10 → ∃ y g1 g2, a1 = some ⟨g1, 0, none⟩ ∧ a2 = some ⟨g2, 0, none⟩ ∧ wr.cell? ⟨g1, i * 10 + j, none⟩ = some (.int .i64 y) ∧ wr.cell? ⟨g2, i * 10 + j, none⟩ = some (.int .i64 y)) := fun j hj => by
        obtain ⟨y, hy⟩ := stvs_int l (i * 10 + j) (by rw [HLM.out.2]; omega)
        obtain ⟨g1, e1, f1⟩ := HS23.out _ _ hy
        obtain ⟨g2, e2, f2⟩ := HS33.out _ _ hy
        have hbb : Below w3.heap.size w3 wr := by rw [HWr.out]; exact HE4.out.trans ((belM w4 m).mono HE4.out.size)
        exact ⟨y, g1, g2, e1, e2, (hbb.cell (p := ⟨g1, i * 10 + j, none⟩) (World.block_lt_of_cell? _ _ f1)).trans f1, (hbb.cell (p := ⟨g2, i * 10 + j, none⟩) (World.block_lt_of_cell? _ _ f2)).trans f2⟩
      obtain ⟨y0, g1, g2, rfl, rfl, p0, q0⟩ := HV.out 0 (by omega)
      obtain ⟨y1, _, _, e1, e2, p1, q1⟩ := HV.out 1 (by omega)
      cases e1; cases e2
      obtain ⟨y2, _, _, e1, e2, p2, q2⟩ := HV.out 2 (by omega)
      cases e1; cases e2
      obtain ⟨y3, _, _, e1, e2, p3, q3⟩ := HV.out 3 (by omega)
      cases e1; cases e2
      obtain ⟨y4, _, _, e1, e2, p4, q4⟩ := HV.out 4 (by omega)
      cases e1; cases e2
      obtain ⟨y5, _, _, e1, e2, p5, q5⟩ := HV.out 5 (by omega)
      cases e1; cases e2
      obtain ⟨y6, _, _, e1, e2, p6, q6⟩ := HV.out 6 (by omega)
      cases e1; cases e2
      obtain ⟨y7, _, _, e1, e2, p7, q7⟩ := HV.out 7 (by omega)
      cases e1; cases e2
      obtain ⟨y8, _, _, e1, e2, p8, q8⟩ := HV.out 8 (by omega)
      cases e1; cases e2
      obtain ⟨y9, _, _, e1, e2, p9, q9⟩ := HV.out 9 (by omega)
      cases e1; cases e2
      rw [Nat.add_zero] at p0 q0
      clear HV
      have hneq := neq_step y0 y1 y2 y3 y4 y5 y6 y7 y8 y9
      go_wp2_with fail
      go_quiet (fail)
      go_wp2_with fail
      go_roundw
      case rel => exact ⟨i + 1, m + nq, by omega, by go_num, by unfold Hid; rw [HWr.out]; exact World.drewN_drewN _ _ _⟩
      case measure => simp [intOf]; omega
    · obtain rfl : i = n := by omega
      have hlt2 : ¬ (i : Int) < (i : Int) := by omega
      go_wp2_with fail
      go_ret
      exact ⟨rfl, by rw [HWr.out]; exact HB4.out.trans ((belM w4 m).mono HB4.out.size)⟩

set_option maxRecDepth 100000 in
theorem mwalks_walk (p size limit : Int) (aL : Option Addr) (cL : Nat) (L : List InsZ) (w : World) (hL : Laid w) (hp1 : -9223372036854775808 ≤ p) (hp2 : p ≤ 9223372036854775807) (hn : L.length ≤ 281474976710656) (hl : LstI w.heap.size w aL cL L) (hIB : InsB L) :
    Calls Tryd.prog 4 #[.int .i64 p, .agg #[.int .i64 size, .slice aL L.length cL], .int .i64 limit] w fun e w' => e = .returned (.bool true) ∧ Below w.heap.size w w' := by
  by_cases hok : okPrime p
  · obtain ⟨q, rfl⟩ := Int.eq_ofNat_of_zero_le (show 0 ≤ p by have := hok.1; omega)
    obtain ⟨h3, h4, hpr⟩ := hok
    rw [Int.toNat_natCast] at hpr
    exact mwalks_yes q size limit aL cL L w hL (by omega) (by omega) hpr hn hl hIB
  · obtain ⟨W0, hW0⟩ : ∃ W0, W0 = w.alloc (.cells #[.int .i64 size, .slice aL L.length cL] 24) := ⟨_, rfl⟩
    have hb0 : Below w.heap.size w W0 := by rw [hW0]; exact (Below.refl _ _).alloc (Nat.le_refl _) _
    have HF := hid (field_no p W0 (hL.below hb0) hok hp1 hp2)
    have HB0 := hid hb0
    obtain ⟨nL, hnL⟩ : ∃ nL, nL = L.length := ⟨_, rfl⟩
    rw [← hnL] at hW0 ⊢
    clear hb0 hn hl hIB hL hnL
    go_enter Tryd.func4, Tryd.ntmps4
    go_wp2_with fail
    rw [← hW0]
    refine HF.out.mono ?_
    rintro e w1 ⟨rfl, hb1⟩
    have HB1 := hid (HB0.out.trans (hb1.mono HB0.out.size))
    clear hb1 HF HB0 hW0
    go_wp2_with fail
    go_ret
    exact ⟨rfl, HB1.out⟩

end Go.Proofs.YthemehdcakimgaiDoor
