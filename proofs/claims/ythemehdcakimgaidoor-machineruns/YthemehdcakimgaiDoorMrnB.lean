/- attestref6.Run. -/
import Derived.Test.YthemehdcakimgaiDoorBiAP
import Derived.Test.YthemehdcakimgaiDoorMahX
import Derived.Test.YthemehdcakimgaiDoorHeldS
namespace Go.Proofs.YthemehdcakimgaiDoor
open Go.RowKit Go.Maps

/-- what the document's Run gives -/
def RfR (p : Nat) (size : Int) (L : List InsZ) (limit : Int) (w : World) (e : Ending) (w' : World) : Prop := Below w.heap.size w w' ∧
  if fz6 (p : Int) size L.length limit ≠ 0 then e = .returned (.tuple #[.agg #[.int .i64 0, .int .i64 0, .slice none 0 0], .int .i64 (fz6 (p : Int) size L.length limit)])
  else match mwalk p size L limit.toNat with
    | .bad z => e = .returned (.tuple #[.agg #[.int .i64 0, .int .i64 0, .slice none 0 0], .int .i64 z])
    | .good l cs => ∃ v l', e = .returned (.tuple #[.agg #[.int .i64 (outv l), .int .i64 ((l.length - 1 : Nat) : Int), v], .int .i64 0]) ∧ CelR w.heap.size w' v l' ∧ AscC cs l'

theorem mgo_cells (p : Nat) (L : List InsZ) (limit : Nat) (hp : 3 ≤ p) : ∀ (f : Nat) (k : Nat) (n : Rg) (cs1 : List (Int × Int)) (done l : List (List Int)) (cs : List (Int × Int)), mgo p L limit f (freshM cs1 n) done = .good l cs → SOk p k 0 (freshM cs1 n) → RgB p n → cs.length ≤ k + 2 * f
  | 0, _, _, _, _, _, _, h, _, _ => by simp [mgo] at h
  | f + 1, k, n, cs1, done, l, cs, h, hs, hr => by
    rw [mgo] at h
    split at h
    · cases h
    · split at h
      · cases h
      · split at h
        · cases h
        · have hso := step_ok hp hs hr (insat L (freshM cs1 n).pc.toNat).op (insat L (freshM cs1 n).pc.toNat).a (insat L (freshM cs1 n).pc.toNat).b (insat L (freshM cs1 n).pc.toNat).c
          split at h
          · injection h with h1 h2
            rw [← h2]
            have := hso.1.2.1
            omega
          · have := mgo_cells p L limit hp f (k + 2) _ _ _ l cs h ⟨hso.1.1, hso.1.2.1, fun _ => Nat.le_refl _⟩ hso.2
            omega
theorem mwalk_cells {p : Nat} {size : Int} {L : List InsZ} {limit : Nat} {l : List (List Int)} {cs : List (Int × Int)} (hp : 3 ≤ p) (h : mwalk p size L limit = .good l cs) : cs.length ≤ 1 + 2 * (limit + 1) := by
  refine mgo_cells p L limit hp _ 1 _ _ _ l cs h ⟨fun j hj => ?_, Nat.le_refl _, fun _ => Nat.le_refl _⟩ ⟨⟨Int.le_refl _, by show (0 : Int) < p; omega⟩, ⟨by show (0 : Int) ≤ 1; omega, by show (1 : Int) < p; omega⟩, emod_bounds _ p hp, ⟨Int.le_refl _, by show (0 : Int) < p; omega⟩⟩
  have : j = 0 := by simpa [freshM] using hj
  subst this
  show 0 ≤ (0 : Int) ∧ (0 : Int) < p
  omega
/-- what Walk gives, for Run -/
theorem rwalk_cases {p : Nat} {size limit : Int} {aL : Option Addr} {cL : Nat} {L : List InsZ} {w : World} (h3 : 3 ≤ p) (h4 : p ≤ 2147483647) (hn : L.length ≤ 281474976710656) (hl : LstI w.heap.size w aL cL L) (hIB : InsB L) :
    (∃ z, z ≠ 0 ∧ (∀ W, Below w.heap.size w W → Calls Tryd.prog 15 #[.int .i64 p, .agg #[.int .i64 size, .slice aL L.length cL], .int .i64 limit] W fun e W' => e = .returned (.tuple #[.slice none 0 0, .slice none 0 0, .int .i64 z]) ∧ Below W.heap.size W W') ∧
      ∀ w', Below w.heap.size w w' → RfR p size L limit w (.returned (.tuple #[.agg #[.int .i64 0, .int .i64 0, .slice none 0 0], .int .i64 z])) w') ∨
    ∃ l cs, 0 < l.length ∧ l.length ≤ 16385 ∧ cs.length ≤ 4000000 ∧ (∀ u, 0 ≤ finz cs u → 0 ≤ u ∧ u < (p : Int)) ∧ (∀ W, Below w.heap.size w W → Calls Tryd.prog 15 #[.int .i64 p, .agg #[.int .i64 size, .slice aL L.length cL], .int .i64 limit] W fun e W' => ∃ v1 v2, e = .returned (.tuple #[v1, v2, .int .i64 0]) ∧ StR W.heap.size W' v1 l ∧ CelR W.heap.size W' v2 cs ∧ Below W.heap.size W W') ∧
      ∀ w' v l', Below w.heap.size w w' → CelR w.heap.size w' v l' → AscC cs l' → RfR p size L limit w (.returned (.tuple #[.agg #[.int .i64 (outv l), .int .i64 ((l.length - 1 : Nat) : Int), v], .int .i64 0])) w' := by
  by_cases hz : fz6 (p : Int) size L.length limit ≠ 0
  · refine .inl ⟨_, hz, fun W _ => rwalk_bad p size limit aL L.length cL W hn hz, fun w' hb => ⟨hb, by rw [if_pos hz]⟩⟩
  · have hz0 : fz6 (p : Int) size L.length limit = 0 := Decidable.byContradiction hz
    have hfz : 0 ≤ size ∧ size ≤ 65536 ∧ 0 < L.length ∧ L.length ≤ 4096 ∧ L.length ≤ p ∧ 0 ≤ limit ∧ limit ≤ 16384 := by
      unfold fz6 at hz0
      split at hz0
      · omega
      · split at hz0
        · omega
        · refine ⟨by omega, by omega, by omega, by omega, by omega, by omega, by omega⟩
    obtain ⟨m, rfl⟩ := Int.eq_ofNat_of_zero_le hfz.2.2.2.2.2.1
    have hR := fun (W : World) (hb : Below w.heap.size w W) => rwalk_any p m cL size aL L W h3 h4 hfz.1 hfz.2.1 hfz.2.2.1 hfz.2.2.2.1 hfz.2.2.2.2.1 (by omega) hIB ((hl.below hb).mono hb.size)
    cases hX : mwalk p size L m with
    | bad z =>
      rw [hX] at hR
      refine .inl ⟨z, mgo_bad _ _ _ _ _ _ _ hX, fun W hb => (hR W hb).mono ?_, fun w' hb => ⟨hb, by rw [if_neg hz, Int.toNat_natCast, hX]⟩⟩
      rintro e' W' ⟨hb', he⟩
      exact ⟨he, hb'⟩
    | good l cs =>
      rw [hX] at hR
      have hln := mgo_len _ _ _ _ _ _ _ _ hX
      refine .inr ⟨l, cs, hln.1, by have := hln.2; simp at this; omega, ?_, (mwalk_once h3 hX).2.1, fun W hb => (hR W hb).mono ?_, fun w' v l' hb hc ha => ⟨hb, by rw [if_neg hz, Int.toNat_natCast, hX]; exact ⟨v, l', rfl, hc, ha⟩⟩⟩
      · have := mwalk_cells h3 hX
        omega
      · rintro e' W' ⟨hb', v1, v2, he, hs, hc⟩
        exact ⟨v1, v2, he, hs, hc, hb'⟩

theorem cnt_lt {P Q : Int × Int → Bool} : ∀ (cs : List (Int × Int)), (∀ c, P c = true → Q c = true) → (∃ c, c ∈ cs ∧ Q c = true ∧ P c = false) → cs.countP P < cs.countP Q
  | [], _, h => by obtain ⟨c, hc, _⟩ := h; cases hc
  | x :: r, hPQ, h => by
    have hle : r.countP P ≤ r.countP Q := List.countP_mono_left (fun c _ => hPQ c)
    rw [List.countP_cons, List.countP_cons]
    obtain ⟨c, hc, h1, h2⟩ := h
    rcases List.mem_cons.1 hc with rfl | hc
    · rw [h1, h2]
      simp
      omega
    · have := cnt_lt r hPQ ⟨c, hc, h1, h2⟩
      cases hP : P x with
      | true => rw [hPQ x hP]; simp; omega
      | false => simp; omega
theorem oper_append {o : Oper} {a : Act} {w w2 : World} {K : Act → World → Prop} {Q : Exit → Act → World → Prop} (s x : Operand) (tS tX : TypeId)
    (ho : o.op = .call { callee := .builtin .append, args := #[s, x], argTypes := #[tS, tX] }) (v u r : Value) (hs : a.eval s = v) (hx : a.eval x = u) (hrun : (Builtin.append_ #[tS, tX] o.type #[v, u]).run Tryd.prog w = .ok r w2)
    (h : K (a.put o.dst r) w2) : Oper.wp Tryd.prog o a w K Q := by
  unfold Oper.wp
  simp [execOp, ho, resolve, invoke, builtin, hs, hx, hrun, Result.andThen]
  exact h
/-- what stands in Run's loop -/
structure RnI (p RB : Nat) (cs : List (Int × Int)) (o : Int) (k : Nat) (low : Int) (pre : List (Int × Int)) (v : Value) (w1 wr : World) : Prop where
  pr : Pre6 cs low pre
  lt : low < (p : Int)
  r : wr.heap[RB]? = some (.cells #[.int .i64 o, .int .i64 (k : Int), v] 31 (0, 0))
  own : CelR (RB + 1) wr v pre
  bel : Below RB w1 wr
  sz : RB + 1 ≤ wr.heap.size
  len : pre.length ≤ cs.countP (fun c => decide (c.1 ≤ low))

set_option maxRecDepth 100000 in
set_option maxHeartbeats 2000000 in
theorem rrun_any (p : Nat) (size limit : Int) (aL : Option Addr) (cL : Nat) (L : List InsZ) (w : World) (h3 : 3 ≤ p) (h4 : p ≤ 2147483647) (hn : L.length ≤ 281474976710656) (hl : LstI w.heap.size w aL cL L) (hIB : InsB L) :
    Calls Tryd.prog 10 #[.int .i64 p, .agg #[.int .i64 size, .slice aL L.length cL], .int .i64 limit] w (RfR p size L limit w) := by
  have hmx : Tryd.prog.follows .mixedOrders = true := by kernel_rfl
  have HCS := hid (rwalk_cases (size := size) (limit := limit) h3 h4 hn hl hIB)
  obtain ⟨nL, hnL⟩ : ∃ nL, nL = L.length := ⟨_, rfl⟩
  rw [← hnL] at HCS ⊢
  obtain ⟨V, hV⟩ : ∃ V, V = w.alloc (.cells #[.int .i64 size, .slice aL nL cL] 24) := ⟨_, rfl⟩
  obtain ⟨W0, hW0⟩ : ∃ W0, W0 = V.alloc (.cells #[.int .i64 0, .int .i64 0, .slice none 0 0] 31) := ⟨_, rfl⟩
  have b1 : Below w.heap.size w V := by rw [hV]; exact (Below.refl _ _).alloc (Nat.le_refl _) _
  have hs : V.heap.size = w.heap.size + 1 := by rw [hV]; simp
  have b2 : Below V.heap.size V W0 := by rw [hW0]; exact (Below.refl _ _).alloc (Nat.le_refl _) _
  have hb0 := b1.trans (b2.mono b1.size)
  have hr0 : W0.heap[w.heap.size + 1]? = some (.cells #[.int .i64 0, .int .i64 0, .slice none 0 0] 31 (0, 0)) := by rw [hW0, ← hs]; exact heap_alloc_new V _
  have HB0 := hid hb0
  have HR0 := hid hr0
  rw [hV] at hW0
  clear hn hl hIB hnL b1 hs b2 hb0 hr0 hV
  go_enter Tryd.func10, Tryd.ntmps10
  go_wp2_with fail
  rw [← hW0]
  clear hW0
  rcases HCS.out with ⟨z, hz, hW, hE⟩ | ⟨l, cs, hl0, hl1, hc1, hkey, hW, hE⟩
  · refine (hW W0 HB0.out).mono ?_
    rintro e w1 ⟨rfl, hb1⟩
    have HR1 := hid ((hb1.block _ (Array.getElem?_eq_some_iff.1 HR0.out).1).trans HR0.out)
    have HB1 := hid (HB0.out.trans (hb1.mono HB0.out.size))
    have d0 : w1.cell? ⟨w.heap.size + 1, 0, none⟩ = some (.int .i64 0) := by simp [World.cell?, HR1.out]
    have d1 : w1.cell? ⟨w.heap.size + 1, 1, none⟩ = some (.int .i64 0) := by simp [World.cell?, HR1.out]
    have d2 : w1.cell? ⟨w.heap.size + 1, 2, none⟩ = some (.slice none 0 0) := by simp [World.cell?, HR1.out]
    have df := (row3_of HR1.out).frozen
    have HP3 := hid (put3_heap HR1.out (.int .i64 0) (.int .i64 0) (.slice none 0 0))
    have HE := hid (hE _ (put3_below HB1.out (Nat.le_succ _) (g := w.heap.size + 1) (.int .i64 0) (.int .i64 0) (.slice none 0 0)))
    have hzb : (z != 0) = true := by simp [hz]
    clear hE HCS hz hW hb1
    go_wp2_with fail
    (try simp only [Exit.inBlock, Exit.then])
    refine bodyPost_ret (results_ctM rfl _ _ (w.heap.size + 1) 31 #[.int .i64 0, .int .i64 0, .slice none 0 0] (0, 0) _ rfl HP3.out Tryd.underlying31 rfl (by kernel_rfl)) rfl ?_
    exact HE.out
  · have HEE := hid hE
    have HKY := hid hkey
    refine (hW W0 HB0.out).mono ?_
    rintro e w1 ⟨v1, v2, rfl, hs1, hcl1, hb1⟩
    have HR1 := hid ((hb1.block _ (Array.getElem?_eq_some_iff.1 HR0.out).1).trans HR0.out)
    have HB1 := hid (HB0.out.trans (hb1.mono HB0.out.size))
    obtain ⟨av, cv, rfl⟩ := hs1.form
    obtain ⟨g, cap, e1, _, hce⟩ := hs1.cells hl0
    injection e1 with e1 _ e3
    subst e1 e3
    obtain ⟨o, ho⟩ := stvs_int l ((l.length - 1) * 10 + 7) (by rw [hs1.1]; omega)
    have hou : outv l = o := by unfold outv; rw [ho]
    rw [hou] at HEE
    have ko := hce _ _ ho
    obtain ⟨n, hn⟩ : ∃ n, n = l.length := ⟨_, rfl⟩
    rw [← hn] at hl0 hl1 HEE ko ⊢
    obtain ⟨k, hk⟩ : ∃ k, n = k + 1 := ⟨n - 1, by omega⟩
    have hk' : n - 1 = k := by omega
    rw [hk'] at ko HEE
    obtain ⟨a2, c2, rfl⟩ := hcl1.form
    have HCL := hid hcl1
    obtain ⟨nc, hnc⟩ : ∃ nc, nc = cs.length := ⟨_, rfl⟩
    have HNC := hid hnc
    rw [← hnc] at HCL ⊢
    have HC1 : Hid (nc ≤ 4000000) := by rw [hnc]; exact hc1
    have hsub : IntKind.i64.wrap ((n : Int) - 1) = (k : Int) := by rw [IntKind.wrap_i64]; omega
    have hkl : (k : Int) < (n : Int) := by omega
    clear hE HCS hW hb1 hkey hs1 hce ho hou hn hcl1 hnc hc1 hk hk'
    go_wp2_with fail
    obtain ⟨RB, hRB⟩ : ∃ RB, RB = w1.heap.size := ⟨_, rfl⟩
    have HRB := hid hRB
    have HI0 : Hid (RnI p RB cs o k 0 [] (.slice none 0 0) w1 (w1.alloc (.cells #[.int .i64 o, .int .i64 (k : Int), .slice none 0 0] 31))) := ⟨pre6_first cs, by omega, by rw [hRB]; exact heap_alloc_new w1 _, World.ownsRow_nil _ _ _ _, by rw [hRB]; exact (Below.refl _ _).alloc (Nat.le_refl _) _, by rw [hRB]; simp, Nat.zero_le _⟩
    rw [← hRB]
    clear hRB ko hsub hkl hl1
    go_loopw [12] (fun lowv wr => ∃ (low : Int) (pre : List (Int × Int)) (v : Value), lowv = .int .i64 low ∧ Hid (RnI p RB cs o k low pre v w1 wr)) (fun lowv _ => p - (intOf lowv).toNat)
    case atStart => exact ⟨0, [], _, rfl, HI0.out⟩
    case round =>
      obtain ⟨low, pre, v, rfl, HI⟩ := hrel
      obtain ⟨wo, hwo⟩ : ∃ wo, wo = wr := ⟨_, rfl⟩
      subst hwo
      go_wp2_with fail
      have HNC0 : Hid (0 ≤ nc) := Nat.zero_le _
      have HWK : Hid (∀ m j, j < nc → ∃ g2 cap, (Value.slice a2 nc c2) = .slice (some ⟨g2, 0, none⟩) nc cap ∧ (wo.drewN m).cell? ⟨g2, j * 2, none⟩ = some (.int .i64 (cat cs j).1) ∧ (wo.drewN m).cell? ⟨g2, j * 2 + 1, none⟩ = some (.int .i64 (cat cs j).2)) := fun m j hj => by
        have hc := HCL.out
        rw [HNC.out] at hc hj ⊢
        obtain ⟨g2, cap, e1, e2, e3, e4⟩ := CelR.at hc hj
        have hbl : ∀ i u, w1.cell? ⟨g2, i, none⟩ = some u → (wo.drewN m).cell? ⟨g2, i, none⟩ = some u := fun i u hu =>
          (HI.out.bel.cell (p := ⟨g2, i, none⟩) (by rw [HRB.out]; exact World.block_lt_of_cell? _ _ hu)).trans hu
        exact ⟨g2, cap, e1, hbl _ _ e3, hbl _ _ e4⟩
      go_loopw [13, 14] (fun bv iv wr => ∃ (b : Int) (i m : Nat), bv = .int .i64 b ∧ iv = .int .i64 (i : Int) ∧ i ≤ nc ∧ Hid (Bst cs low i b) ∧ Hid (wr = wo.drewN m)) (fun _ iv _ => nc - (intOf iv).toNat)
      case atStart => exact ⟨-1, 0, 0, rfl, rfl, Nat.zero_le _, bst_first cs low, rfl⟩
      case round =>
        obtain ⟨b, i, m, rfl, rfl, hi, HBS, HW2⟩ := hrel
        by_cases hlt : i < nc
        · have hlt2 : (i : Int) < (nc : Int) := by omega
          have his : IntKind.i64.wrap ((i : Int) + 1) = (i : Int) + 1 := by have := HC1.out; rw [IntKind.wrap_i64]; omega
          obtain ⟨g2, cap2, e1, q0, _⟩ := HWK.out m i hlt
          injection e1 with e1 e2 e3
          subst e1 e3
          clear e2
          rw [← HW2.out] at q0
          obtain ⟨z, hz⟩ : ∃ z, z = (cat cs i).1 := ⟨_, rfl⟩
          have HZ := hid hz
          rw [← hz] at q0
          clear hz
          by_cases hA : low < z
          · by_cases hB : b < 0
            · have HNX : Hid (Bst cs low (i + 1) i) := bst_take HBS.out (by rw [← HZ.out]; exact hA) (.inl hB)
              go_wp2_with fail
              go_quiet (fail)
              go_wp2_with fail
              go_roundw
              case rel => exact ⟨(i : Int), i + 1, m + nq, rfl, by go_num, by omega, HNX, by unfold Hid; rw [HW2.out]; exact World.drewN_drewN _ _ _⟩
              case measure => simp [intOf]; omega
            · have hBe : ∃ m' : Nat, b = m' ∧ m' < i := by
                rcases HBS.out with ⟨h5, _⟩ | ⟨m', h5, h6, _⟩
                · omega
                · exact ⟨m', h5, h6⟩
              obtain ⟨m', rfl, hm'⟩ := hBe
              obtain ⟨g3, cap3, e1, q1, _⟩ := HWK.out m m' (by omega)
              injection e1 with e1 e2 e3
              injection e1 with e1
              injection e1 with e1
              subst e1 e3
              clear e2
              rw [← HW2.out] at q1
              obtain ⟨z2, hz2⟩ : ∃ z2, z2 = (cat cs m').1 := ⟨_, rfl⟩
              have HZ2 := hid hz2
              rw [← hz2] at q1
              clear hz2
              have hml : (m' : Int) < (nc : Int) := by omega
              by_cases hC : z < z2
              · have HNX : Hid (Bst cs low (i + 1) i) := bst_take HBS.out (by rw [← HZ.out]; exact hA) (.inr ⟨m', rfl, by rw [← HZ.out, ← HZ2.out]; exact hC⟩)
                go_wp2_with fail
                go_quiet (fail)
                go_wp2_with fail
                go_roundw
                case rel => exact ⟨(i : Int), i + 1, m + nq, rfl, by go_num, by omega, HNX, by unfold Hid; rw [HW2.out]; exact World.drewN_drewN _ _ _⟩
                case measure => simp [intOf]; omega
              · have HNX : Hid (Bst cs low (i + 1) m') := bst_skip HBS.out (.inr ⟨m', rfl, by rw [← HZ.out, ← HZ2.out]; omega⟩)
                go_wp2_with fail
                go_quiet (fail)
                go_wp2_with fail
                go_roundw
                case rel => exact ⟨(m' : Int), i + 1, m + nq, rfl, by go_num, by omega, HNX, by unfold Hid; rw [HW2.out]; exact World.drewN_drewN _ _ _⟩
                case measure => simp [intOf]; omega
          · have HNX : Hid (Bst cs low (i + 1) b) := bst_skip HBS.out (.inl (by rw [← HZ.out]; omega))
            go_wp2_with fail
            have hA' : ¬ low < z := by omega
            go_quiet (fail)
            go_wp2_with fail
            go_roundw
            case rel => exact ⟨b, i + 1, m + nq, rfl, by go_num, by omega, HNX, by unfold Hid; rw [HW2.out]; exact World.drewN_drewN _ _ _⟩
            case measure => simp [intOf]; omega
        · obtain rfl : i = nc := by omega
          have hlt2 : ¬ (i : Int) < (i : Int) := by omega
          have HB2 : Hid (Below RB w1 wr) := by unfold Hid; rw [HW2.out]; exact HI.out.bel.trans ((belM wo m).mono (by have := HI.out.sz; omega))
          have HRr : Hid (wr.heap[RB]? = some (.cells #[.int .i64 o, .int .i64 (k : Int), v] 31 (0, 0))) := by unfold Hid; rw [HW2.out]; exact HI.out.r
          rcases HBS.out with ⟨rfl, hall⟩ | ⟨m', rfl, hm', hA, hle, hne⟩
          · have hr2 := HRr.out
            have HRW : Hid (wr.heap[w.heap.size + 1]? = some (.cells #[.int .i64 0, .int .i64 0, .slice none 0 0] 31 (0, 0))) := (HB2.out.block _ (by rw [HRB.out]; exact (Array.getElem?_eq_some_iff.1 HR1.out).1)).trans HR1.out
            have HAC := hid (pre6_end HI.out.pr HKY.out h4 (fun j hj => hall j (by rw [HNC.out]; exact hj)))
            have d0 : wr.cell? ⟨w.heap.size + 1, 0, none⟩ = some (.int .i64 0) := by simp [World.cell?, HRW.out]
            have d1 : wr.cell? ⟨w.heap.size + 1, 1, none⟩ = some (.int .i64 0) := by simp [World.cell?, HRW.out]
            have d2 : wr.cell? ⟨w.heap.size + 1, 2, none⟩ = some (.slice none 0 0) := by simp [World.cell?, HRW.out]
            have df := (row3_of HRW.out).frozen
            have s0 : wr.cell? ⟨RB, 0, none⟩ = some (.int .i64 o) := by simp [World.cell?, hr2]
            have s1 : wr.cell? ⟨RB, 1, none⟩ = some (.int .i64 (k : Int)) := by simp [World.cell?, hr2]
            have s2 : wr.cell? ⟨RB, 2, none⟩ = some v := by simp [World.cell?, hr2]
            have HP3 := hid (put3_heap HRW.out (.int .i64 o) (.int .i64 (k : Int)) v)
            have hlw : w.heap.size + 1 < RB := by rw [HRB.out]; exact (Array.getElem?_eq_some_iff.1 HR1.out).1
            have hbw : Below w.heap.size w wr := HB1.out.trans (HB2.out.mono (by omega))
            have HOW : Hid (CelR (RB + 1) wr v pre) := by unfold Hid; rw [HW2.out]; exact HI.out.own
            have HEND := hid (HEE.out (((wr.setCell ⟨w.heap.size + 1, 0, none⟩ (.int .i64 o)).setCell ⟨w.heap.size + 1, 1, none⟩ (.int .i64 (k : Int))).setCell ⟨w.heap.size + 1, 2, none⟩ v) v pre (put3_below hbw (Nat.le_succ _) (g := w.heap.size + 1) _ _ _) (by
              refine ⟨HOW.out.1, ?_⟩
              rcases HOW.out.2 with hn | ⟨g', cap', cur, e1, hb', hg', rest⟩
              · exact .inl hn
              · refine .inr ⟨g', cap', cur, e1, by omega, ?_, rest⟩
                rw [Below.heap_setCell _ _ _ _ (by show g' ≠ w.heap.size + 1; omega), Below.heap_setCell _ _ _ _ (by show g' ≠ w.heap.size + 1; omega), Below.heap_setCell _ _ _ _ (by show g' ≠ w.heap.size + 1; omega)]
                exact hg') HAC.out)
            obtain ⟨av, cv', rfl⟩ := HOW.out.form
            clear hr2 hall hlw hbw HOW HAC HWK HBS
            go_wp2_with fail
            (try simp only [Exit.inBlock, Exit.then])
            refine bodyPost_ret (results_ctM rfl _ _ (w.heap.size + 1) 31 #[.int .i64 o, .int .i64 (k : Int), .slice av pre.length cv'] (0, 0) _ rfl HP3.out Tryd.underlying31 rfl (by kernel_rfl)) rfl ?_
            exact HEND.out
          · obtain ⟨g2, cap2, e1, q0, q1⟩ := HWK.out m m' hm'
            injection e1 with e1 e2 e3
            subst e1 e3
            clear e2
            rw [← HW2.out] at q0 q1
            obtain ⟨z0, hz0⟩ : ∃ z0, z0 = (cat cs m').1 := ⟨_, rfl⟩
            obtain ⟨z1, hz1⟩ : ∃ z1, z1 = (cat cs m').2 := ⟨_, rfl⟩
            have HLZ : Hid (low < z0) := by unfold Hid; rw [hz0]; exact hA
            have HZ0 := hid hz0
            have HZ1 := hid hz1
            rw [← hz0] at q0
            rw [← hz1] at q1
            have HOW : Hid (CelR (RB + 1) wr v pre) := by unfold Hid; rw [HW2.out]; exact HI.out.own
            have HPM := hid (pre6_more HI.out.pr (by rw [← HNC.out]; exact hm') hA (by rw [← HNC.out]; exact hle) hne)
            have hr2 := HRr.out
            have s0 : wr.cell? ⟨RB, 0, none⟩ = some (.int .i64 o) := by simp [World.cell?, hr2]
            have s1 : wr.cell? ⟨RB, 1, none⟩ = some (.int .i64 (k : Int)) := by simp [World.cell?, hr2]
            have s2 : wr.cell? ⟨RB, 2, none⟩ = some v := by simp [World.cell?, hr2]
            have hml : (m' : Int) < (i : Int) := by omega
            have hm0 : ¬ (m' : Int) < 0 := by omega
            clear hr2 hz0 hz1
            go_wp2_with fail
            obtain ⟨av, cv', rfl⟩ := HOW.out.form
            obtain ⟨np, hnp⟩ : ∃ np, np = pre.length := ⟨_, rfl⟩
            have HNP := hid hnp
            rw [← hnp] at s2
            have HRR2 := HRr.out
            rw [← hnp] at HRR2
            have HOX := HOW.out
            rw [← hnp] at HOX
            have HOR := hid HOX
            have HRR := hid HRR2
            clear HRR2 HOX hnp
            have hC0 : wr.drew.cell? ⟨RB, 2, none⟩ = some (.slice av np cv') ∧ wr.drew.cell? ⟨g2, m' * 2, none⟩ = some (.int .i64 z0) ∧ wr.drew.cell? ⟨g2, m' * 2 + 1, none⟩ = some (.int .i64 z1) := ⟨s2, q0, q1⟩
            refine wp_region_S (C := fun W => W.cell? ⟨RB, 2, none⟩ = some (.slice av np cv') ∧ W.cell? ⟨g2, m' * 2, none⟩ = some (.int .i64 z0) ∧ W.cell? ⟨g2, m' * 2 + 1, none⟩ = some (.int .i64 z1)) (st := [9]) hmx ?_
            refine wpAnyS_pure (i := 0) (v := .pointer (some ⟨RB, 2, none⟩)) rfl (by kernel_rfl) (by kernel_rfl) (by kernel_rfl) (by kernel_rfl) (fun _ _ _ h => h) (Or.inl ⟨by rfl, fun W _ => by go_simp⟩) (fun _ => hC0) ?_
            refine wpAnyS_take (i := 1) (v := .slice av np cv') rfl (by kernel_rfl) (by kernel_rfl) (by kernel_rfl) (by kernel_rfl) (by kernel_rfl) (by kernel_rfl) (fun _ _ _ h => h) (Or.inl ⟨by rfl, fun W hC => by (obtain ⟨x0, x1, x2⟩ := hC; go_simp)⟩) hC0 ?_
            refine wpAnyS_pure (i := 2) (v := .slice (some ⟨g2, 0, none⟩) i c2) rfl (by kernel_rfl) (by kernel_rfl) (by kernel_rfl) (by kernel_rfl) (fun _ _ _ h => h) (Or.inl ⟨by rfl, fun W _ => by go_simp⟩) (fun _ => hC0) ?_
            refine wpAnyS_pure (i := 3) (v := .int .i64 (m' : Int)) rfl (by kernel_rfl) (by kernel_rfl) (by kernel_rfl) (by kernel_rfl) (fun _ _ _ h => h) (Or.inl ⟨by rfl, fun W _ => by go_simp⟩) (fun _ => hC0) ?_
            refine wpAnyS_pure (i := 4) (v := .pointer (some ⟨g2, m' * 2, none⟩)) rfl (by kernel_rfl) (by kernel_rfl) (by kernel_rfl) (by kernel_rfl) (fun _ _ _ h => h) (Or.inl ⟨by rfl, fun W _ => by go_simp⟩) (fun _ => hC0) ?_
            refine wpAnyS_take (i := 5) (v := .agg #[.int .i64 z0, .int .i64 z1]) rfl (by kernel_rfl) (by kernel_rfl) (by kernel_rfl) (by kernel_rfl) (by kernel_rfl) (by kernel_rfl) (fun _ _ _ h => h) (Or.inl ⟨by rfl, fun W hC => by (obtain ⟨x0, x1, x2⟩ := hC; go_simp)⟩) hC0 ?_
            refine wpAnyS_one (i := 6) (by kernel_rfl) ?_
            refine wpOp_step rfl (fun K' hK' => ?_)
            rw [if_pos (by rfl)]
            go_simp
            obtain ⟨X, hX⟩ : ∃ X, X = (wr.alloc (.cells #[.int .i64 z0, .int .i64 z1] 67)).drew := ⟨_, rfl⟩
            have hbX : Below wr.heap.size wr X := by rw [hX]; exact ((Below.refl _ _).alloc (Nat.le_refl _) _).drew
            have hC1 : X.cell? ⟨RB, 2, none⟩ = some (.slice av np cv') ∧ X.cell? ⟨g2, m' * 2, none⟩ = some (.int .i64 z0) ∧ X.cell? ⟨g2, m' * 2 + 1, none⟩ = some (.int .i64 z1) := ⟨(hbX.cell (p := ⟨RB, 2, none⟩) (World.block_lt_of_cell? _ _ s2)).trans s2, (hbX.cell (p := ⟨g2, m' * 2, none⟩) (World.block_lt_of_cell? _ _ q0)).trans q0, (hbX.cell (p := ⟨g2, m' * 2 + 1, none⟩) (World.block_lt_of_cell? _ _ q1)).trans q1⟩
            rw [← hX]
            refine hK' _ _ ⟨fun _ => hC1, ?_⟩
            clear hK' K'
            have hcX : X.heap[wr.heap.size]? = some (.cells #[.int .i64 z0, .int .i64 z1] 67 (0, 0)) := by rw [hX]; exact heap_alloc_new wr _
            obtain ⟨i0, hi0, hz0, hz1, hz2⟩ := info_parts (show (Tryd.prog.info? 67).map (fun i => (i.zero, i.size, i.bytes)) = some (some (.agg #[.int .i64 0, .int .i64 0]), 2, 16) by kernel_rfl)
            have hszw : RB + 1 ≤ X.heap.size := by
              have h9 := hbX.size
              have h8 : wo.heap.size = wr.heap.size := by rw [HW2.out]; rfl
              have h7 := HI.out.sz
              omega
            have hown1 : X.ownsRow (RB + 1) 67 2 (.slice av np cv') np (celv pre) := by
              have h9 : CelR (RB + 1) X (.slice av np cv') pre := CelR.belowM HOR.out hbX
              have h8 := h9
              unfold CelR at h8
              rw [← HNP.out] at h8
              exact h8
            have hnp4 : np ≤ 4000000 := by
              have h9 := HI.out.len
              have h8 := List.countP_le_length (p := fun c : Int × Int => decide (c.1 ≤ low)) (l := cs)
              have h7 := HC1.out
              have h6 := HNC.out
              have h5 := HNP.out
              omega
            obtain ⟨v', w2, hrun, hown2, hgrow, _⟩ := run_append_own X (RB + 1) 29 29 67 i0 _ 2 16 Tryd.underlying29 hi0 hz0 hz1 hz2 rfl (by decide) (.slice av np cv') np (celv pre) hown1 ⟨wr.heap.size, 0, none⟩ 1 1 [.int .i64 z0, .int .i64 z1] rfl (by
              intro j u hj
              have hadd : (⟨wr.heap.size, 0, none⟩ : Addr).add j = ⟨wr.heap.size, j, none⟩ := by unfold Addr.add; split <;> simp_all
              rw [hadd]
              simp only [World.cell?, hcX]
              simpa using hj) (by intro u hu; simp at hu; rcases hu with rfl | rfl <;> rfl) (by unfold maxLen; omega) (by omega) hszw
            have HRUN := hid hrun
            have HOW2 := hid hown2
            have HGR := hid hgrow
            have hv' : ∃ a' c', v' = .slice a' (np + 1) c' := by
              rcases hown2.2 with ⟨_, h0⟩ | ⟨g', cap', cur, e, _⟩
              · omega
              · exact ⟨_, _, e⟩
            obtain ⟨a', c', rfl⟩ := hv'
            have hRl : RB < X.heap.size := by omega
            have hno : ∀ b, b ≤ RB → b < X.heap.size → w2.heap[b]? = X.heap[b]? := fun b hb hbl => hgrow.block b hbl (fun e => by have := (World.ownsRow.lt hown1 b e.symm).1; omega)
            have hgl : g2 < RB := by
              have h9 := HCL.out
              rw [HNC.out] at h9
              obtain ⟨g9, c9, e9, _, f9, _⟩ := CelR.at h9 (j := m') (by rw [← HNC.out]; exact hm')
              injection e9 with e9 _ _
              injection e9 with e9
              injection e9 with e9
              rw [e9, HRB.out]
              exact World.block_lt_of_cell? _ _ f9
            have t2 : w2.cell? ⟨RB, 2, none⟩ = some (.slice av np cv') := (World.cell?_of_block (w := X) (a := ⟨RB, 2, none⟩) (hno RB (Nat.le_refl _) hRl)).trans hC1.1
            have t0 : w2.cell? ⟨g2, m' * 2, none⟩ = some (.int .i64 z0) := (World.cell?_of_block (w := X) (a := ⟨g2, m' * 2, none⟩) (hno g2 (by omega) (by omega))).trans hC1.2.1
            have t1 : w2.cell? ⟨g2, m' * 2 + 1, none⟩ = some (.int .i64 z1) := (World.cell?_of_block (w := X) (a := ⟨g2, m' * 2 + 1, none⟩) (hno g2 (by omega) (by omega))).trans hC1.2.2
            have hr2 : w2.heap[RB]? = some (.cells #[.int .i64 o, .int .i64 (k : Int), .slice av np cv'] 31 (0, 0)) := (hno RB (Nat.le_refl _) hRl).trans ((hbX.block RB (Array.getElem?_eq_some_iff.1 HRR.out).1).trans HRR.out)
            have tf := (row3_of hr2).frozen
            refine wpAnyS_one (i := 7) (by kernel_rfl) ?_
            refine wpOp_step rfl (fun K' hK' => ?_)
            rw [if_pos (by rfl)]
            refine oper_append _ _ 29 29 rfl _ _ (.slice a' (np + 1) c') rfl rfl hrun ?_
            refine hK' _ _ ⟨fun _ => ⟨t2, t0, t1⟩, ?_⟩
            clear hK' K'
            refine wpAnyS_pure (i := 8) (v := .pointer (some ⟨RB, 2, none⟩)) rfl (by kernel_rfl) (by kernel_rfl) (by kernel_rfl) (by kernel_rfl) (fun _ _ _ h => h) (Or.inl ⟨by rfl, fun W _ => by go_simp⟩) (fun _ => ⟨t2, t0, t1⟩) ?_
            refine wpAnyS_one (i := 9) (by kernel_rfl) ?_
            refine wpOp_step rfl (fun K' hK' => ?_)
            rw [if_pos (by rfl)]
            go_simp
            refine hK' _ _ ⟨fun h => absurd (h 9 (by simp)) (by decide), ?_⟩
            clear hK' K'
            refine wpAnyS_done (by kernel_rfl) ?_ _
            obtain ⟨W9, hW9⟩ : ∃ W9, W9 = w2.setCell ⟨RB, 2, none⟩ (.slice a' (np + 1) c') := ⟨_, rfl⟩
            have hoth : ∀ b, b ≠ RB → W9.heap[b]? = w2.heap[b]? := fun b hb => by rw [hW9]; exact Below.heap_setCell _ _ _ _ hb
            have u0 : W9.cell? ⟨g2, m' * 2, none⟩ = some (.int .i64 z0) := (World.cell?_of_block (w := w2) (a := ⟨g2, m' * 2, none⟩) (hoth g2 (by omega))).trans t0
            have hr9 : W9.heap[RB]? = some (.cells #[.int .i64 o, .int .i64 (k : Int), .slice a' (np + 1) c'] 31 (0, 0)) := by rw [hW9]; show (w2.heap.modify RB _)[RB]? = _; rw [Array.getElem?_modify, if_pos rfl, hr2]; rfl
            have hk9 : 0 ≤ z0 ∧ z0 < (p : Int) := by rw [HZ0.out]; exact HKY.out _ (finz_key (by rw [← HNC.out]; exact hm'))
            have HNI : Hid (RnI p RB cs o k z0 (pre ++ [(z0, z1)]) (.slice a' (np + 1) c') w1 W9) := by
              have hpm := HPM.out
              have hcm : cat cs m' = (z0, z1) := by rw [HZ0.out, HZ1.out]
              rw [hcm] at hpm
              refine ⟨hpm, hk9.2, hr9, ?_, ?_, ?_, ?_⟩
              · refine ⟨?_, ?_⟩
                · rw [celv_app, List.length_append, List.length_append, celv_len]; simp [celv]; omega
                · rcases hown2.2 with ⟨_, h0⟩ | ⟨g', cap', cur, e, hb', hg', rest⟩
                  · omega
                  · refine .inr ⟨g', cap', cur, ?_, hb', (hoth g' (by omega)).trans hg', ?_⟩
                    · rw [e, List.length_append, ← HNP.out]; rfl
                    · rw [List.length_append, ← HNP.out, celv_app]; exact rest
              · have hg9 : Below RB X w2 := ⟨hgrow.os, hgrow.tape, hgrow.output, hgrow.size, fun b hb => hno b (by omega) (by omega)⟩
                have hs9 : Below RB w2 W9 := ⟨by rw [hW9]; rfl, by rw [hW9]; rfl, by rw [hW9]; rfl, by rw [hW9]; simp [World.setCell], fun b hb => hoth b (by omega)⟩
                exact ((HB2.out.trans (hbX.mono (by have := (Array.getElem?_eq_some_iff.1 HRR.out).1; omega))).trans hg9).trans hs9
              · have h9 := hgrow.size
                have h8 : W9.heap.size = w2.heap.size := by rw [hW9]; simp [World.setCell]
                omega
              · rw [List.length_append]
                have h9 := HI.out.len
                have hlz := HLZ.out
                have h8 := cnt_lt (P := fun c : Int × Int => decide (c.1 ≤ low)) (Q := fun c : Int × Int => decide (c.1 ≤ z0)) cs (fun c hc => by have := of_decide_eq_true hc; exact decide_eq_true (by omega)) ⟨(z0, z1), by rw [← hcm]; simp [cat, show m' < cs.length by rw [← HNC.out]; exact hm'], by simp, by simp; omega⟩
                have h7 : [(z0, z1)].length = 1 := rfl
                omega
            have HLO : Hid (0 ≤ low ∧ low < z0) := ⟨HI.out.pr.1, HLZ.out⟩
            rw [← hW9]
            clear hrun hown2 hgrow hown1 hi0 hz0 hz1 hz2 hcX hno t0 t1 t2 tf hr2 hC0 hC1 hbX hoth hW9 HRUN HOW2 HGR s0 s1 s2 q0 q1 hr9
            go_wp2_with fail
            go_roundw
            case rel => exact ⟨z0, _, _, rfl, HNI.out⟩
            case measure => have := HLO.out; simp [intOf]; omega

end Go.Proofs.YthemehdcakimgaiDoor
