/- Package whole: Read. -/
import Derived.Test.YtcajofdmadpmoaaDoorWbAM
namespace Go.Proofs.YtcajofdmadpmoaaDoor
open Go.RowKit

theorem results_cci {P : Program} {fn : Func} {p r : Tmp} {ty t2 : TypeId} (h : fn.results = #[.cell p ty, .cell r t2]) (tmps : Array Value) (w : World) (g g2 : Nat) (tt : TypeId) (cs : Array Value) (fr : Nat × Nat) (d : TypeDesc) (v : Value)
    (hp : tmps.getD p undef = .pointer (some ⟨g, 0, none⟩)) (hr : tmps.getD r undef = .pointer (some ⟨g2, 0, none⟩)) (hg : w.heap[g]? = some (.cells cs tt fr)) (h2 : (loadVar t2 ⟨g2, 0, none⟩).run P w = .ok v w)
    (hu : P.underlying ty = some d) (hd : (match d with | .struct _ | .array _ _ => true | _ => false) = true) (hi : (P.info? ty).map (·.size) = some cs.size) :
    (results fn tmps).run P w = .ok (.tuple #[.agg cs, v]) w := by
  have hp' : tmps[p]?.getD undef = .pointer (some ⟨g, 0, none⟩) := by simpa using hp
  have hr' : tmps[r]?.getD undef = .pointer (some ⟨g2, 0, none⟩) := by simpa using hr
  simp [results, h, hp', hr', asAddr, run_loadVar_row w g tt ty cs fr d hg hu hd hi, h2]
theorem loadErr {w : World} {g : Nat} {v : Value} (h : w.cell? ⟨g, 0, none⟩ = some v) : (loadVar 34 ⟨g, 0, none⟩).run Tryd.prog w = .ok v w := by simp [go_sem, h]

/-- bytes of a voucher, and no more -/
def rdAll (bs : List Nat) : Option VoZ := match rdV bs with
  | some (z, []) => some z
  | _ => none
theorem rdAll_none {bs : List Nat} (h : rdV bs = none) : rdAll bs = none := by unfold rdAll; rw [h]
theorem rdAll_more {bs : List Nat} {z : VoZ} {b : Nat} {r : List Nat} (h : rdV bs = some (z, b :: r)) : rdAll bs = none := by unfold rdAll; rw [h]
theorem rdAll_all {bs : List Nat} {z : VoZ} (h : rdV bs = some (z, [])) : rdAll bs = some z := by unfold rdAll; rw [h]
def RdE (w : World) (o : Option VoZ) (e : Ending) (w' : World) : Prop := Below w.heap.size w w' ∧ match o with
  | some z => ∃ v, e = .returned (.tuple #[v, .nilIface]) ∧ PVo w' v z
  | none => e = .returned (.tuple #[.agg zvo.toArray, .iface 56 (.int .i64 5)])
/-- what stands in Read -/
structure RdS (C : Nat) (l : List Value) (v : Value) (w W : World) : Prop where
  s1 : W.heap[C]? = some (.cells l.toArray 30 (0, 0))
  s2 : W.heap[C + 1]? = some (.cells #[v] 34 (0, 0))
  bel : Below w.heap.size w W
  hC : w.heap.size ≤ C
section
variable {C : Nat} {l : List Value} {v : Value} {w W W' : World}
theorem RdS.gb (h : RdS C l v w W) (e : W.grownBy W' (some (C + 1 + 1))) : RdS C l v w W' :=
  ⟨(gb_blk e (Array.getElem?_eq_some_iff.1 h.s1).1 (by omega)).trans h.s1, (gb_blk e (Array.getElem?_eq_some_iff.1 h.s2).1 (by omega)).trans h.s2,
    ⟨e.os.trans h.bel.os, e.tape.trans h.bel.tape, e.output.trans h.bel.output, Nat.le_trans h.bel.size e.size, fun k hk => (gb_blk e (by have := h.bel.size; omega) (by have := h.hC; omega)).trans (h.bel.block k hk)⟩, h.hC⟩
theorem RdS.below (h : RdS C l v w W) (e : Below W.heap.size W W') : RdS C l v w W' :=
  ⟨(e.block _ (Array.getElem?_eq_some_iff.1 h.s1).1).trans h.s1, (e.block _ (Array.getElem?_eq_some_iff.1 h.s2).1).trans h.s2, h.bel.trans (e.mono h.bel.size), h.hC⟩
theorem RdS.row (h : RdS C l v w W) (x : List Value) : RdS C x v w (W.setRow C x.toArray) :=
  ⟨setRow_heap _ _ _ _ _ _ h.s1, (setRow_other _ _ _ _ (by omega)).trans h.s2, below_setRow h.bel h.hC _, h.hC⟩
theorem RdS.put2 (h : RdS C l v w W) (x : Value) : RdS C l x w (W.setCell ⟨C + 1, 0, none⟩ x) :=
  ⟨(Below.heap_setCell _ _ _ _ (by show C ≠ C + 1; omega)).trans h.s1, set_atW h.s2 0 x, h.bel.setCell (p := ⟨C + 1, 0, none⟩) (by show w.heap.size ≤ C + 1; have := h.hC; omega) x, h.hC⟩
theorem RdS.kor (h : RdS C l v w W) (x : List Value) : KO W (W.setRow C x.toArray) :=
  KO.oth h.s1 (by decide) (by decide) (by decide) (by simp) (fun b _ hb => setRow_other _ _ _ _ hb)
theorem RdS.ko2 (h : RdS C l v w W) (x : Value) : KO W (W.setCell ⟨C + 1, 0, none⟩ x) :=
  KO.oth h.s2 (by decide) (by decide) (by decide) (by simp [World.setCell]) (fun b _ hb => Below.heap_setCell _ _ _ _ hb)
theorem RdS.c2 (h : RdS C l v w W) : W.cell? ⟨C + 1, 0, none⟩ = some v := by simp [World.cell?, h.s2]
theorem RdS.f2 (h : RdS C l v w W) : W.frozen? ⟨C + 1, 0, none⟩ = false := by simp [World.frozen?, h.s2]
end
theorem PVo.ko {w w' : World} {v : Value} {z : VoZ} (h : PVo w v z) (k : KO w w') : PVo w' v z := by
  obtain ⟨v0, v1, v2, v3, v4, v5, v6, v7, v8, v9, va, vb, e, h1, h2, h3, h4⟩ := h
  exact ⟨v0, v1, v2, v3, v4, v5, v6, v7, v8, v9, va, vb, e, h1.ko k, h2.ko k, h3.ko k, h4.ko k⟩
theorem OwnI.one {b : Nat} {w : World} {v : Value} {rs : List (List Int)} (h : OwnI b w v rs) : v.oneCell' = true := by
  obtain ⟨a, c, rfl, _⟩ := h.lst
  rfl
theorem OwnK.one {b : Nat} {w : World} {v : Value} {rs : List OnZ} (h : OwnK b w v rs) : v.oneCell' = true := by
  obtain ⟨a, c, rfl, _⟩ := h.lst
  rfl
theorem POn.one {w : World} {a b c : Value} {o : OnZ} (h : POn w (.agg #[a, b, c]) o) : a.oneCell' = true ∧ b.oneCell' = true ∧ c.oneCell' = true := by
  obtain ⟨vp, vr, vn, e, h1, h2, h3⟩ := h
  injection e with e
  injection e with e
  injection e with e1 e
  injection e with e2 e
  injection e with e3 _
  subst e1 e2 e3
  exact ⟨h1.one, h2.one, h3.one⟩
theorem PVo.cells {w : World} {v : Value} {z : VoZ} (h : PVo w v z) : ∃ l : List Value, v = .agg l.toArray ∧ l.length = 12 ∧ l.toArray.all (·.oneCell') = true := by
  obtain ⟨v0, v1, v2, v3, v4, v5, v6, v7, v8, v9, va, vb, e, h1, h2, h3, h4⟩ := h
  refine ⟨[v0, v1, v2, v3, v4, v5, v6, v7, v8, v9, va, vb], e, rfl, ?_⟩
  have e2 : v2.oneCell' = true := by rw [h1.h2]; rfl
  simp [h1.h0.one, h1.h1.one, e2, h1.h3.one, h1.h4.one, h2.one, h3.one.1, h3.one.2.1, h3.one.2.2, h4.one.1, h4.one.2.1, h4.one.2.2]

set_option maxRecDepth 100000 in
set_option maxHeartbeats 4000000 in
theorem read_any (a : Option Addr) (c : Nat) (bs : List Nat) (w : World) (hB : ByR w.heap.size w a c bs) (h256 : ∀ b, b ∈ bs → b < 256) (hsz : bs.length ≤ 16777216) :
    Calls Tryd.prog 6 #[.slice a bs.length c] w (RdE w (rdAll bs)) := by
  have hmf : ∀ (fn : Fn) (first cap : Array Value) (w : World), (Instr.makeFunc fn first cap).run Tryd.prog w = .ok (.func fn first cap) w := fun _ _ _ _ => rfl
  obtain ⟨C, hC⟩ : ∃ C, C = w.heap.size := ⟨_, rfl⟩
  obtain ⟨V1, h1⟩ : ∃ V, V = w.alloc (.cells #[.slice none 0 0, .slice none 0 0, .int .i64 0, .slice none 0 0, .slice none 0 0, .slice none 0 0, .slice none 0 0, .slice none 0 0, .slice none 0 0, .slice none 0 0, .slice none 0 0, .slice none 0 0] 30) := ⟨_, rfl⟩
  obtain ⟨V2, h2⟩ : ∃ V, V = V1.alloc (.cells #[.nilIface] 34) := ⟨_, rfl⟩
  obtain ⟨W0, h3⟩ : ∃ V, V = V2.alloc (.cells #[.slice a bs.length c] 59) := ⟨_, rfl⟩
  have e1 : V1.heap.size = C + 1 := by rw [h1, hC]; simp
  have e2 : V2.heap.size = C + 1 + 1 := by rw [h2]; simp [e1]
  have b1 : Below C w V1 := by rw [h1, hC]; exact (Below.refl _ _).alloc (Nat.le_refl _) _
  have b2 : Below (C + 1) V1 V2 := by rw [h2, ← e1]; exact (Below.refl _ _).alloc (Nat.le_refl _) _
  have b3 : Below (C + 1 + 1) V2 W0 := by rw [h3, ← e2]; exact (Below.refl _ _).alloc (Nat.le_refl _) _
  have n1 : V1.heap[C]? = some (.cells zvo.toArray 30 (0, 0)) := by rw [h1, hC]; exact heap_alloc_new w _
  have n2 : V2.heap[C + 1]? = some (.cells #[.nilIface] 34 (0, 0)) := by rw [h2, ← e1]; exact heap_alloc_new V1 _
  have n3 : W0.heap[C + 1 + 1]? = some (.cells #[.slice a bs.length c] 59 (0, 0)) := by rw [h3, ← e2]; exact heap_alloc_new V2 _
  have hbw : Below C w W0 := b1.trans ((b2.mono (by omega)).trans (b3.mono (by omega)))
  have HS0 : Hid (RdS C zvo .nilIface w W0) := ⟨(b3.block _ (by omega)).trans ((b2.block _ (by omega)).trans n1), (b3.block _ (by omega)).trans n2, by rw [← hC]; exact hbw, by omega⟩
  have hrd : RdW W0 (C + 1 + 1) bs := ⟨a, c, n3, (hB.blocks (fun b hb => hbw.block b (by omega))).mono (by omega), h256, hsz⟩
  have HR0 := hid hrd
  have HV := hid (voucher_any (C + 1 + 1) bs W0 hrd)
  have HW0 : Hid (((w.alloc (.cells #[.slice none 0 0, .slice none 0 0, .int .i64 0, .slice none 0 0, .slice none 0 0, .slice none 0 0, .slice none 0 0, .slice none 0 0, .slice none 0 0, .slice none 0 0, .slice none 0 0, .slice none 0 0] 30)).alloc (.cells #[.nilIface] 34)).alloc (.cells #[.slice a bs.length c] 59) = W0) := by unfold Hid; rw [h3, h2, h1]
  have HC := hid hC
  obtain ⟨n, hn⟩ : ∃ n, n = bs.length := ⟨_, rfl⟩
  rw [← hn] at HW0 ⊢
  have HE : Hid (∀ e w', RdE w (rdAll bs) e w' → RdE w (rdAll bs) e w') := fun _ _ h => h
  clear hB h256 hsz h1 h2 h3 e1 e2 b1 b2 b3 n1 n2 n3 hbw hrd hC hn
  cases hr : rdV bs with
  | none =>
    rw [hr] at HV
    have HA := hid (rdAll_none hr)
    rw [HA.out] at HE ⊢
    clear hr
    go_enter_defers Tryd.func6, Tryd.ntmps6
    go_wp2_with fail
    rw [HW0.out, ← HC.out]
    refine HV.out.mono ?_
    rintro e w1 ⟨hg, rfl⟩
    have HS1 := hid (HS0.out.gb hg)
    refine leaves_cons (f := 19) (args := #[.pointer (some ⟨C, 0, none⟩), .pointer (some ⟨C + 1, 0, none⟩)]) (by simp) (by simp [go_sem]) ?_
    refine (catchW_fault C (C + 1) zvo .nilIface w1 HS1.out.s1 rfl HS1.out.s2 (by omega)).mono ?_
    rintro e u' w4 ⟨rfl, rfl, W1, hb1, hw4⟩
    have HS4 : Hid (RdS C zvo (.iface 56 (.int .i64 5)) w w4) := by unfold Hid; rw [hw4]; exact ((HS1.out.below hb1).row zvo).put2 _
    have hE := HE.out (.returned (.tuple #[.agg zvo.toArray, .iface 56 (.int .i64 5)])) w4 ⟨HS4.out.bel, rfl⟩
    clear hw4 hg HS1 HE HV HW0
    exact ⟨_, results_cci rfl _ w4 C (C + 1) 30 zvo.toArray (0, 0) _ _ rfl rfl HS4.out.s1 (loadErr HS4.out.c2) Tryd.underlying30 rfl (by kernel_rfl), hE⟩
  | some zr =>
    obtain ⟨z, r⟩ := zr
    rw [hr] at HV
    cases r with
    | cons b r =>
      have HA := hid (rdAll_more hr)
      rw [HA.out] at HE ⊢
      clear hr
      go_enter_defers Tryd.func6, Tryd.ntmps6
      go_wp2_with fail
      rw [HW0.out, ← HC.out]
      refine HV.out.mono ?_
      rintro e w1 ⟨hg, v, rfl, hv, h1⟩
      obtain ⟨l, rfl, hl, ha⟩ := PVo.cells hv
      have HS1 := hid (HS0.out.gb hg)
      have HL := hid hl
      have HA1 := hid ha
      obtain ⟨W2, hW2⟩ : ∃ W2, W2 = w1.setRow C l.toArray := ⟨_, rfl⟩
      have HS2 : Hid (RdS C l .nilIface w W2) := by unfold Hid; rw [hW2]; exact HS1.out.row l
      have HW2 := hid hW2
      obtain ⟨a0, c0, h10, _⟩ := h1
      have h20 : W2.heap[C + 1 + 1]? = some (.cells #[.slice a0 (r.length + 1) c0] 59 (0, 0)) := by rw [hW2]; exact (setRow_other _ _ _ _ (by omega)).trans h10
      have x0 : W2.cell? ⟨C + 1 + 1, 0, none⟩ = some (.slice a0 (r.length + 1) c0) := by simp [World.cell?, h20]
      have hne : ¬ ((r.length : Int) + 1 = 0) := by omega
      have HM := hid (must_no W2)
      obtain ⟨m, hm⟩ : ∃ m, m = r.length := ⟨_, rfl⟩
      rw [← hm] at x0 hne
      clear hg hv h10 h20 hl ha hW2 HV HW0 HS0 HR0 hm
      go_wp2_with (refine wpList_store_row rfl 30 _ _ rfl C l.toArray rfl rfl _ _ HS1.out.s1 (by rw [List.size_toArray, HL.out]; kernel_rfl) (by rw [List.size_toArray, List.size_toArray, HL.out]; rfl) HA1.out ?_; rw [← HW2.out])
      refine HM.out.mono ?_
      rintro e w3 ⟨rfl, rfl⟩
      refine leaves_cons (f := 19) (args := #[.pointer (some ⟨C, 0, none⟩), .pointer (some ⟨C + 1, 0, none⟩)]) (by simp) (by simp [go_sem]) ?_
      refine (catchW_fault C (C + 1) l .nilIface w3 HS2.out.s1 HL.out HS2.out.s2 (by omega)).mono ?_
      rintro e u' w4 ⟨rfl, rfl, W1, hb1, hw4⟩
      have HS4 : Hid (RdS C zvo (.iface 56 (.int .i64 5)) w w4) := by unfold Hid; rw [hw4]; exact ((HS2.out.below hb1).row zvo).put2 _
      have hE := HE.out (.returned (.tuple #[.agg zvo.toArray, .iface 56 (.int .i64 5)])) w4 ⟨HS4.out.bel, rfl⟩
      clear hw4 HS1 HE
      exact ⟨_, results_cci rfl _ w4 C (C + 1) 30 zvo.toArray (0, 0) _ _ rfl rfl HS4.out.s1 (loadErr HS4.out.c2) Tryd.underlying30 rfl (by kernel_rfl), hE⟩
    | nil =>
      have HA := hid (rdAll_all hr)
      rw [HA.out] at HE ⊢
      clear hr
      go_enter_defers Tryd.func6, Tryd.ntmps6
      go_wp2_with fail
      rw [HW0.out, ← HC.out]
      refine HV.out.mono ?_
      rintro e w1 ⟨hg, v, rfl, hv, h1⟩
      obtain ⟨l, rfl, hl, ha⟩ := PVo.cells hv
      have HS1 := hid (HS0.out.gb hg)
      have HL := hid hl
      have HA1 := hid ha
      obtain ⟨W2, hW2⟩ : ∃ W2, W2 = w1.setRow C l.toArray := ⟨_, rfl⟩
      have HS2 : Hid (RdS C l .nilIface w W2) := by unfold Hid; rw [hW2]; exact HS1.out.row l
      have HP2 : Hid (PVo W2 (.agg l.toArray) z) := by unfold Hid; rw [hW2]; exact hv.ko (HS1.out.kor l)
      have HW2 := hid hW2
      obtain ⟨a0, c0, h10, _⟩ := h1
      have h20 : W2.heap[C + 1 + 1]? = some (.cells #[.slice a0 0 c0] 59 (0, 0)) := by rw [hW2]; exact (setRow_other _ _ _ _ (by omega)).trans h10
      have x0 : W2.cell? ⟨C + 1 + 1, 0, none⟩ = some (.slice a0 0 c0) := by simp [World.cell?, h20]
      have HM := hid (must_yes W2)
      clear hg hv h10 h20 hl ha hW2 HV HW0 HS0 HR0
      go_wp2_with (refine wpList_store_row rfl 30 _ _ rfl C l.toArray rfl rfl _ _ HS1.out.s1 (by rw [List.size_toArray, HL.out]; kernel_rfl) (by rw [List.size_toArray, List.size_toArray, HL.out]; rfl) HA1.out ?_; rw [← HW2.out])
      refine HM.out.mono ?_
      rintro e w3 ⟨rfl, hw⟩
      have hwx := hw.symm
      subst hwx
      clear hw HM x0 HS1 HW2
      obtain ⟨W3, hW3⟩ : ∃ W3, W3 = W2.setRow C l.toArray := ⟨_, rfl⟩
      have HS3 : Hid (RdS C l .nilIface w W3) := by unfold Hid; rw [hW3]; exact HS2.out.row l
      have HP3 : Hid (PVo W3 (.agg l.toArray) z) := by unfold Hid; rw [hW3]; exact HP2.out.ko (HS2.out.kor l)
      have y0 := HS3.out.c2
      have y1 := HS3.out.f2
      have HW3 := hid hW3
      obtain ⟨W4, hW4⟩ : ∃ W4, W4 = W3.setCell ⟨C + 1, 0, none⟩ .nilIface := ⟨_, rfl⟩
      have HS4 : Hid (RdS C l .nilIface w W4) := by unfold Hid; rw [hW4]; exact HS3.out.put2 _
      have HP4 : Hid (PVo W4 (.agg l.toArray) z) := by unfold Hid; rw [hW4]; exact HP3.out.ko (HS3.out.ko2 _)
      have HW4 := hid hW4
      clear hW3 hW4
      go_wp2_with (first
        | (refine wpList_load_row rfl 30 _ rfl C rfl _ _ _ _ HS2.out.s1 Tryd.underlying30 rfl (by rw [List.size_toArray, HL.out]; kernel_rfl) ?_)
        | (refine wpList_store_row rfl 30 _ _ rfl C l.toArray rfl rfl _ _ HS2.out.s1 (by rw [List.size_toArray, HL.out]; kernel_rfl) (by rw [List.size_toArray]) HA1.out ?_; rw [← HW3.out]))
      rw [← HW4.out]
      refine leaves_cons (f := 19) (args := #[.pointer (some ⟨C, 0, none⟩), .pointer (some ⟨C + 1, 0, none⟩)]) (by simp) (by simp [go_sem]) ?_
      refine (catchW_idle ⟨C, 0, none⟩ ⟨C + 1, 0, none⟩ W4).mono ?_
      rintro e u' w4 ⟨rfl, rfl, hw4⟩
      rw [hw4]
      have hE := HE.out (.returned (.tuple #[.agg l.toArray, .nilIface])) W4 ⟨HS4.out.bel, _, rfl, HP4.out⟩
      exact ⟨_, results_cci rfl _ W4 C (C + 1) 30 l.toArray (0, 0) _ _ rfl rfl HS4.out.s1 (loadErr HS4.out.c2) Tryd.underlying30 rfl (by rw [List.size_toArray, HL.out]; kernel_rfl), hE⟩

end Go.Proofs.YtcajofdmadpmoaaDoor
