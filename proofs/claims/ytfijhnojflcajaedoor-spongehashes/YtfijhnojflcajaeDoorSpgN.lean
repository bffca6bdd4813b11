/- Package sponge: New. -/
import Derived.Test.YtfijhnojflcajaeDoorSpgC
import Derived.Test.YtfijhnojflcajaeDoorFld
namespace Go.Proofs.YtfijhnojflcajaeDoor
open Go.RowKit

/-! ## a struct that is built of rows -/
theorem put_list (off i : Nat) : ∀ (l : List Value) (k : Nat) (cells : Array Value), ((l.zipIdx k).foldl (fun cs (p : Value × Nat) => cs.setIfInBounds (off + p.2) p.1) cells)[i]? = if off + k ≤ i ∧ i < off + k + l.length ∧ i < cells.size then l[i - off - k]? else cells[i]?
  | [], k, cells => by
    rw [if_neg (by simp; omega)]
    rfl
  | v :: t, k, cells => by
    rw [List.zipIdx_cons, List.foldl_cons, put_list off i t (k + 1)]
    simp only [Array.size_setIfInBounds, List.length_cons]
    by_cases h1 : off + (k + 1) ≤ i ∧ i < off + (k + 1) + t.length ∧ i < cells.size
    · rw [if_pos h1, if_pos (by omega), show i - off - k = (i - off - (k + 1)) + 1 from by omega, List.getElem?_cons_succ]
    · rw [if_neg h1]
      by_cases h2 : i = off + k
      · subst h2
        by_cases h3 : off + k < cells.size
        · rw [if_pos (by omega), show off + k - off - k = 0 from by omega, Array.getElem?_setIfInBounds_self]
          simp [h3]
        · rw [if_neg (by omega), Array.getElem?_eq_none (by simp; omega), Array.getElem?_eq_none (by omega)]
      · rw [if_neg (by omega), Array.getElem?_setIfInBounds_ne (by omega)]

def putc (off : Nat) (vs cells : Array Value) : Array Value := vs.zipIdx.foldl (fun cs (c, j) => cs.setIfInBounds (off + j) c) cells
theorem putc_at (off i : Nat) (vs cells : Array Value) (h : off + vs.size ≤ cells.size) : (putc off vs cells)[i]? = if off ≤ i ∧ i < off + vs.size then vs[i - off]? else cells[i]? := by
  have e := put_list off i vs.toList 0 cells
  have e2 : putc off vs cells = (vs.toList.zipIdx 0).foldl (fun cs (p : Value × Nat) => cs.setIfInBounds (off + p.2) p.1) cells := by
    unfold putc
    rw [← Array.foldl_toList, Array.toList_zipIdx]
  rw [e2, e]
  simp only [Nat.add_zero, Nat.sub_zero, Array.length_toList, Array.getElem?_toList]
  by_cases h1 : off ≤ i ∧ i < off + vs.size
  · rw [if_pos h1, if_pos (by omega)]
  · rw [if_neg h1, if_neg (by omega)]
theorem putc_size (off : Nat) (vs cells : Array Value) (h : off + vs.size ≤ cells.size) : (putc off vs cells).size = cells.size := by
  rcases Nat.lt_trichotomy (putc off vs cells).size cells.size with g | g | g
  · have h1 := putc_at off (putc off vs cells).size vs cells h
    rw [Array.getElem?_eq_none (Nat.le_refl _)] at h1
    split at h1
    · rw [Array.getElem?_eq_getElem (by omega)] at h1; exact absurd h1 (by simp)
    · rw [Array.getElem?_eq_getElem g] at h1; exact absurd h1 (by simp)
  · exact g
  · have h1 := putc_at off cells.size vs cells h
    rw [Array.getElem?_eq_getElem g, if_neg (by omega), Array.getElem?_eq_none (Nat.le_refl _)] at h1
    exact absurd h1 (by simp)

theorem fill_one {place : Nat → Option (Nat × Nat)} {cells : Array Value} {i off size : Nat} {v : Value} {rest : List (Nat × Value)} (hp : place i = some (off, size)) (hv : v.cells.size = size) (hs : off + size ≤ cells.size) :
    Instr.fill place cells ((i, v) :: rest) = Instr.fill place (putc off v.cells cells) rest := by
  subst hv
  simp only [Instr.fill, hp]
  rw [if_neg (by simp; omega)]
  rfl

theorem wpList_build_r {P : Program} {ops : Array Oper} {rest : List Oper} {o : Oper} {a : Act} {w : World} {Q : Exit → Act → World → Prop} (hg : o.guard = none) (t : TypeId) (l : List (Nat × Operand)) (ho : o.op = .build t l.toArray) (R : Array Value)
    (vs : List (Nat × Value)) (hv : l.map (fun p => (p.1, a.eval p.2)) = vs) (hf : P.built t vs = some R) (h : wpList P ops Q rest (a.put o.dst (.agg R)) w) : wpList P ops Q (o :: rest) a w := by
  have e : (l.toArray.map fun (i, x) => (i, a.eval x)).toList = vs := by rw [← hv]; simp
  exact wpList_build hg t l.toArray ho (by rw [e, hf]; rfl) (by rw [e, hf]; exact h)

/-- the sponge's places -/
def spl : Array (Nat × Nat) := #[(0, 1), (1, 1), (2, 1), (3, 64), (67, 8), (75, 64)]
noncomputable def spz : Array Value := match Tryd.prog.info? 52 with
  | some i => match i.zero with
    | some z => z.cells
    | none => #[]
  | none => #[]
theorem spz_size : spz.size = 139 := by kernel_rfl
theorem sp_built (parts : List (Nat × Value)) : Tryd.prog.built 52 parts = Instr.fill (spl[·]?) spz parts := by kernel_rfl

/-- the cells of a sponge -/
def SpgC (R : Array Value) (q b n d : Nat) : Prop := R.size = 139 ∧ R[0]? = some (.pointer (some ⟨b, 0, none⟩)) ∧ R[1]? = some (.int .i64 n) ∧ R[2]? = some (.int .i64 d) ∧ (∀ t, t < 64 → R[3 + t]? = some (.int .i64 (mtr q t))) ∧
  (∀ t, t < 8 → R[67 + t]? = some (.int .i64 (wt q t))) ∧ (∀ t, t < 64 → R[75 + t]? = some (.int .i64 (ctr q t)))

theorem sp_cells (q b n d : Nat) : ∃ R, Tryd.prog.built 52 [(0, .pointer (some ⟨b, 0, none⟩)), (1, .int .i64 n), (2, .int .i64 d), (3, .agg (an 64 (mtr q))), (4, .agg (an 8 (wt q))), (5, .agg (an 64 (ctr q)))] = some R ∧ SpgC R q b n d := by
  rw [sp_built]
  have a1 : (Value.agg (an 64 (mtr q))).cells = an 64 (mtr q) := rfl
  have a2 : (Value.agg (an 8 (wt q))).cells = an 8 (wt q) := rfl
  have a3 : (Value.agg (an 64 (ctr q))).cells = an 64 (ctr q) := rfl
  have c1 : (Value.pointer (some ⟨b, 0, none⟩)).cells = #[Value.pointer (some ⟨b, 0, none⟩)] := rfl
  have c2 : (Value.int .i64 (n : Int)).cells = #[Value.int .i64 (n : Int)] := rfl
  have c3 : (Value.int .i64 (d : Int)).cells = #[Value.int .i64 (d : Int)] := rfl
  have s0 := spz_size
  rw [fill_one (off := 0) (size := 1) rfl (by rw [c1]; rfl) (by omega), c1]
  have s1 := putc_size 0 #[Value.pointer (some ⟨b, 0, none⟩)] spz (by simp; omega)
  rw [fill_one (off := 1) (size := 1) rfl (by rw [c2]; rfl) (by omega), c2]
  have s2 := putc_size 1 #[Value.int .i64 (n : Int)] (putc 0 #[Value.pointer (some ⟨b, 0, none⟩)] spz) (by simp; omega)
  rw [fill_one (off := 2) (size := 1) rfl (by rw [c3]; rfl) (by omega), c3]
  have s3 := putc_size 2 #[Value.int .i64 (d : Int)] (putc 1 #[Value.int .i64 (n : Int)] (putc 0 #[Value.pointer (some ⟨b, 0, none⟩)] spz)) (by simp; omega)
  rw [fill_one (off := 3) (size := 64) rfl (by rw [a1, an_size]) (by omega), a1]
  have s4 := putc_size 3 (an 64 (mtr q)) (putc 2 #[Value.int .i64 (d : Int)] (putc 1 #[Value.int .i64 (n : Int)] (putc 0 #[Value.pointer (some ⟨b, 0, none⟩)] spz))) (by rw [an_size]; omega)
  rw [fill_one (off := 67) (size := 8) rfl (by rw [a2, an_size]) (by omega), a2]
  have s5 := putc_size 67 (an 8 (wt q)) (putc 3 (an 64 (mtr q)) (putc 2 #[Value.int .i64 (d : Int)] (putc 1 #[Value.int .i64 (n : Int)] (putc 0 #[Value.pointer (some ⟨b, 0, none⟩)] spz)))) (by rw [an_size]; omega)
  rw [fill_one (off := 75) (size := 64) rfl (by rw [a3, an_size]) (by omega), a3]
  have s6 := putc_size 75 (an 64 (ctr q)) (putc 67 (an 8 (wt q)) (putc 3 (an 64 (mtr q)) (putc 2 #[Value.int .i64 (d : Int)] (putc 1 #[Value.int .i64 (n : Int)] (putc 0 #[Value.pointer (some ⟨b, 0, none⟩)] spz))))) (by rw [an_size]; omega)
  have g6 : ∀ i, i < 75 → (putc 75 (an 64 (ctr q)) (putc 67 (an 8 (wt q)) (putc 3 (an 64 (mtr q)) (putc 2 #[Value.int .i64 (d : Int)] (putc 1 #[Value.int .i64 (n : Int)] (putc 0 #[Value.pointer (some ⟨b, 0, none⟩)] spz))))))[i]? = (putc 67 (an 8 (wt q)) (putc 3 (an 64 (mtr q)) (putc 2 #[Value.int .i64 (d : Int)] (putc 1 #[Value.int .i64 (n : Int)] (putc 0 #[Value.pointer (some ⟨b, 0, none⟩)] spz)))))[i]? := fun i hi => by
    rw [putc_at _ _ _ _ (by rw [an_size]; omega), if_neg (by omega)]
  have g5 : ∀ i, i < 67 → (putc 67 (an 8 (wt q)) (putc 3 (an 64 (mtr q)) (putc 2 #[Value.int .i64 (d : Int)] (putc 1 #[Value.int .i64 (n : Int)] (putc 0 #[Value.pointer (some ⟨b, 0, none⟩)] spz)))))[i]? = (putc 3 (an 64 (mtr q)) (putc 2 #[Value.int .i64 (d : Int)] (putc 1 #[Value.int .i64 (n : Int)] (putc 0 #[Value.pointer (some ⟨b, 0, none⟩)] spz))))[i]? := fun i hi => by
    rw [putc_at _ _ _ _ (by rw [an_size]; omega), if_neg (by omega)]
  have g4 : ∀ i, i < 3 → (putc 3 (an 64 (mtr q)) (putc 2 #[Value.int .i64 (d : Int)] (putc 1 #[Value.int .i64 (n : Int)] (putc 0 #[Value.pointer (some ⟨b, 0, none⟩)] spz))))[i]? = (putc 2 #[Value.int .i64 (d : Int)] (putc 1 #[Value.int .i64 (n : Int)] (putc 0 #[Value.pointer (some ⟨b, 0, none⟩)] spz)))[i]? := fun i hi => by
    rw [putc_at _ _ _ _ (by rw [an_size]; omega), if_neg (by omega)]
  refine ⟨_, rfl, by omega, ?_, ?_, ?_, fun t ht => ?_, fun t ht => ?_, fun t ht => ?_⟩
  · rw [g6 0 (by omega), g5 0 (by omega), g4 0 (by omega), putc_at _ _ _ _ (by simp; omega), if_neg (by simp), putc_at _ _ _ _ (by simp; omega), if_neg (by simp), putc_at _ _ _ _ (by simp; omega), if_pos (by simp)]
    rfl
  · rw [g6 1 (by omega), g5 1 (by omega), g4 1 (by omega), putc_at _ _ _ _ (by simp; omega), if_neg (by simp), putc_at _ _ _ _ (by simp; omega), if_pos (by simp)]
    rfl
  · rw [g6 2 (by omega), g5 2 (by omega), g4 2 (by omega), putc_at _ _ _ _ (by simp; omega), if_pos (by simp)]
    rfl
  · rw [g6 _ (by omega), g5 _ (by omega), putc_at _ _ _ _ (by rw [an_size]; omega), if_pos (by rw [an_size]; omega), show 3 + t - 3 = t from by omega, an_at ht]
  · rw [g6 _ (by omega), putc_at _ _ _ _ (by rw [an_size]; omega), if_pos (by rw [an_size]; omega), show 67 + t - 67 = t from by omega, an_at ht]
  · rw [putc_at _ _ _ _ (by rw [an_size]; omega), if_pos (by rw [an_size]; omega), show 75 + t - 75 = t from by omega, an_at ht]

theorem SpgC.at {R : Array Value} {q b n d s : Nat} (h : SpgC R q b n d) {w : World} {t : TypeId} (hw : w.heap[s]? = some (.cells R t (0, 0))) (hp : w.cell? ⟨b, 0, none⟩ = some (.int .i64 q)) : SpgAt w s b q n d := by
  obtain ⟨_, h1, h2, h3, h4, h5, h6⟩ := h
  have hc : ∀ i, w.cell? ⟨s, i, none⟩ = R[i]? := fun i => cell_of_row w s i R t (0, 0) hw
  refine ⟨by rw [hc, h1], by rw [hc, h2], by rw [hc, h3], fun i j hi hj => ?_, fun i hi => by rw [hc, h5 i hi], fun r i hr hi => ?_, hp⟩
  · rw [hc, Nat.add_assoc, h4 (i * 8 + j) (by omega), mtr_at q i j hj]
  · rw [hc, Nat.add_assoc, h6 (r * 8 + i) (by omega), ctr_at q r i hi]

theorem snew_no (q b : Nat) (w : World) (h3 : 3 ≤ q) (hlt : q < 23) (hp : w.cell? ⟨b, 0, none⟩ = some (.int .i64 q)) :
    Calls Tryd.prog 19 #[.pointer (some ⟨b, 0, none⟩)] w fun e w' => e = .returned (.tuple #[.pointer none, .iface 69 (.int .i64 3)]) ∧ w' = w := by
  have HP := hid (p_any q b w hp)
  have hlt2 : (q : Int) < 23 := by omega
  go_enter Tryd.func19, Tryd.ntmps19
  go_wp2_with fail
  refine HP.out.mono ?_
  rintro e w1 ⟨rfl, rfl⟩
  go_wp2_with fail
  go_ret2
  exact ⟨rfl, rfl⟩

set_option maxRecDepth 100000 in
set_option maxHeartbeats 1000000 in
theorem snew_any (q b : Nat) (w : World) (hpr : Num.Prime q) (h23 : 23 ≤ q) (hm : q ≤ 2147483647) (hp : w.cell? ⟨b, 0, none⟩ = some (.int .i64 q)) :
    Calls Tryd.prog 19 #[.pointer (some ⟨b, 0, none⟩)] w fun e w' => ∃ s n d, e = .returned (.tuple #[.pointer (some ⟨s, 0, none⟩), .nilIface]) ∧ w.heap.size ≤ s ∧ SpgOk q n d ∧ SpgAt w' s b q n d ∧ Below w.heap.size w w' := by
  have HPX : Hid (∀ w1 : World, w1.cell? ⟨b, 0, none⟩ = some (.int .i64 q) → Calls Tryd.prog 33 #[.pointer (some ⟨b, 0, none⟩)] w1 fun e w' => e = .returned (.int .i64 q) ∧ w' = w1) := fun w1 h => p_any q b w1 h
  have hnlt : ¬ (q : Int) < 23 := by omega
  have HPR := hid hpr
  have HP := hid hp
  have hbl := heap_lt hp
  clear hpr hp
  have hw1 : IntKind.i64.wrap ((q : Int) - 1) = (q : Int) - 1 := by rw [IntKind.wrap_i64]; omega
  go_enter Tryd.func19, Tryd.ntmps19
  go_wp2_with fail
  refine (HPX.out w HP.out).mono ?_
  rintro e w1 ⟨rfl, rfl⟩
  go_wp2_with fail
  refine (HPX.out _ HP.out).mono ?_
  rintro e w1 ⟨rfl, rfl⟩
  go_wp2_with fail
  refine (leastco_any q _ (by omega) hm).mono ?_
  rintro e w2 ⟨n, rfl, hpn, hnq, hb2⟩
  have HPN := hid hpn
  have HB2 := hid hb2
  have HP2 := hid ((hb2.cell (p := ⟨b, 0, none⟩) hbl).trans HP.out)
  clear hpn hb2
  go_wp2_with fail
  refine (HPX.out _ HP2.out).mono ?_
  rintro e w3 ⟨rfl, rfl⟩
  go_wp2_with fail
  refine (rootof_any q n _ (by omega) hm HPN.out hnq).mono ?_
  rintro e w4 ⟨d, rfl, hdk, hd1, hdq, rfl⟩
  have HOK : Hid (SpgOk q n d) := ⟨HPR.out, h23, hm, HPN.out, hdk, hd1, by omega, by omega⟩
  clear hdk hd1 hdq HPN
  go_wp2_with fail
  refine (matrixOf_any q b _ HPR.out (by omega) hm HP2.out).mono ?_
  rintro e w5 ⟨rfl, hb5⟩
  have HB5 : Hid (Below w1.heap.size w1 w5) := HB2.out.trans (hb5.mono HB2.out.size)
  have HP5 := hid ((HB5.out.cell (p := ⟨b, 0, none⟩) hbl).trans HP.out)
  clear hb5 HP2 HB2
  go_wp2_with fail
  refine (weightsOf_any q b _ HPR.out (by omega) hm HP5.out).mono ?_
  rintro e w6 ⟨rfl, hb6⟩
  have HB6 : Hid (Below w1.heap.size w1 w6) := HB5.out.trans (hb6.mono HB5.out.size)
  have HP6 := hid ((HB6.out.cell (p := ⟨b, 0, none⟩) hbl).trans HP.out)
  clear hb6 HP5 HB5
  go_wp2_with fail
  refine (constantsOf_any q b _ HPR.out (by omega) hm HP6.out).mono ?_
  rintro e w7 ⟨rfl, hb7⟩
  have HB7 : Hid (Below w1.heap.size w1 w7) := HB6.out.trans (hb7.mono HB6.out.size)
  have HP7 := hid ((HB7.out.cell (p := ⟨b, 0, none⟩) hbl).trans HP.out)
  clear hb7 HP6 HB6
  obtain ⟨R, hR, hRC⟩ := sp_cells q b n d
  have HR := hid hR
  have HRC := hid hRC
  clear hR hRC
  generalize an 64 (mtr q) = A1 at *
  generalize an 8 (wt q) = A2 at *
  generalize an 64 (ctr q) = A3 at *
  go_wp2_with (refine wpList_build_r rfl 52 _ rfl R _ rfl HR.out ?_)
  go_ret2
  refine ⟨w7.heap.size, n, d, rfl, HB7.out.size, HOK.out, HRC.out.at (heap_alloc_new w7 _) ?_, HB7.out.alloc HB7.out.size _⟩
  exact (((Below.refl w7.heap.size w7).alloc (Nat.le_refl _) (.cells R 52)).cell (p := ⟨b, 0, none⟩) (Nat.lt_of_lt_of_le hbl HB7.out.size)).trans HP7.out

end Go.Proofs.YtfijhnojflcajaeDoor
