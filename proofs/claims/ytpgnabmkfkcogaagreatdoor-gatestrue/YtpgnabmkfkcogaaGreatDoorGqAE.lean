/- What the field's method Invs answers, by its own text: the memory that it makes, its two loops. What package poly's Fit answers. -/
import Derived.Test.YtpgnabmkfkcogaaGreatDoorGqAD
import Derived.Test.YtpgnabmkfkcogaaGreatDoorFld
import Derived.Sort.CutIn
import Derived.Test.YtpgnabmkfkcogaaGreatDoorGqAC
namespace Go.Proofs.YtpgnabmkfkcogaaGreatDoor
open Go.RowKit Go.Shelf

attribute [local go_sem] Oper.semAt_some

theorem intInfo : (Tryz.prog.info? 3).map (fun i => (i.zero, i.size, i.bytes)) = some (some (.int .i64 0), 1, 8) := by kernel_rfl

/-- the new list's cells -/
structure Out (N n p : Nat) (o : Nat → Nat) (W : World) : Prop where
  cells : ∀ j, j < n → W.cell? ⟨N + 1, j, none⟩ = some (.int .i64 (o j : Int))
  soft : ∀ j, j < n → W.frozen? ⟨N + 1, j, none⟩ = false
  lt : ∀ j, j < n → o j < p

/-- the boxes of the field and of the new list -/
structure Boxes (N n b : Nat) (W : World) : Prop where
  fbox : W.cell? ⟨N, 0, none⟩ = some (.pointer (some ⟨b, 0, none⟩))
  obox : W.cell? ⟨N + 2, 0, none⟩ = some (.slice (some ⟨N + 1, 0, none⟩) n n)

theorem Out.set {N n p : Nat} {o : Nat → Nat} {W : World} (h : Out N n p o W) {i x : Nat} (hi : i < n) (hx : x < p) : Out N n p (updI o i x) (W.setCell ⟨N + 1, i, none⟩ (.int .i64 (x : Int))) := by
  refine ⟨fun j hj => ?_, fun j hj => by rw [World.frozen?_setCell]; exact h.soft j hj, fun j hj => ?_⟩
  · unfold updI
    by_cases hji : j = i
    · subst hji; rw [if_pos rfl]; exact World.cell?_setCell_same _ _ _ (h.cells j hj)
    · rw [if_neg hji, World.cell?_setCell_other _ _ _ _ (by intro e; cases e; exact hji rfl)]; exact h.cells j hj
  · unfold updI
    by_cases hji : j = i
    · rw [if_pos hji]; exact hx
    · rw [if_neg hji]; exact h.lt j hj

theorem cell_far (W : World) (a c : Addr) (v : Value) (h : a.block ≠ c.block) : (W.setCell a v).cell? c = W.cell? c := World.cell?_setCell_other _ _ _ _ (fun e => h (by rw [e]))

theorem Out.far {N n p : Nat} {o : Nat → Nat} {W : World} (h : Out N n p o W) {a : Addr} (ha : a.block ≠ N + 1) (v : Value) : Out N n p o (W.setCell a v) :=
  ⟨fun j hj => by rw [cell_far _ _ _ _ ha]; exact h.cells j hj, fun j hj => by rw [World.frozen?_setCell]; exact h.soft j hj, h.lt⟩

theorem Boxes.far {N n b : Nat} {W : World} (h : Boxes N n b W) {a : Addr} (h1 : a.block ≠ N) (h2 : a.block ≠ N + 2) (v : Value) : Boxes N n b (W.setCell a v) :=
  ⟨by rw [cell_far _ _ _ _ h1]; exact h.fbox, by rw [cell_far _ _ _ _ h2]; exact h.obox⟩

theorem Out.drew {N n p : Nat} {o : Nat → Nat} {W : World} (h : Out N n p o W) : Out N n p o W.drew := ⟨h.cells, h.soft, h.lt⟩
theorem Boxes.drew {N n b : Nat} {W : World} (h : Boxes N n b W) : Boxes N n b W.drew := ⟨h.fbox, h.obox⟩

theorem Out.alloc {N n p : Nat} {o : Nat → Nat} {W : World} (h : Out N n p o W) (hN : N + 1 < W.heap.size) (q : Obj) : Out N n p o (W.alloc q) :=
  ⟨fun j hj => by rw [World.cell?_alloc_lt _ _ ⟨N + 1, j, none⟩ hN]; exact h.cells j hj, fun j hj => by rw [World.frozen?_alloc_old _ _ ⟨N + 1, j, none⟩ (by simp; omega)]; exact h.soft j hj, h.lt⟩

theorem Boxes.alloc {N n b : Nat} {W : World} (h : Boxes N n b W) (hN : N + 2 < W.heap.size) (q : Obj) : Boxes N n b (W.alloc q) :=
  ⟨by rw [World.cell?_alloc_lt _ _ ⟨N, 0, none⟩ (by simp; omega)]; exact h.fbox, by rw [World.cell?_alloc_lt _ _ ⟨N + 2, 0, none⟩ hN]; exact h.obox⟩

theorem Out.kept {N n p : Nat} {o : Nat → Nat} {W W' : World} {row : Option Nat} (h : Out N n p o W) (hg : W.grownBy W' row) (hr : ∀ r, row = some r → ∃ q : Obj, W.heap[r]? = some q ∧ q.isCells = false) : Out N n p o W' :=
  ⟨fun j hj => cell_kept (h.cells j hj) hg hr, fun j hj => (frozen_kept (h.cells j hj) hg hr).trans (h.soft j hj), h.lt⟩

theorem Boxes.kept {N n b : Nat} {W W' : World} {row : Option Nat} (h : Boxes N n b W) (hg : W.grownBy W' row) (hr : ∀ r, row = some r → ∃ q : Obj, W.heap[r]? = some q ∧ q.isCells = false) : Boxes N n b W' :=
  ⟨cell_kept h.fbox hg hr, cell_kept h.obox hg hr⟩

theorem el_nat' (p s : Nat) (h : s < p) : el p (s : Int) = s := by
  unfold el; rw [Int.emod_eq_of_lt (by omega) (by omega)]; simp

/-- a product modulo p -/
def mmn (p x y : Nat) : Nat := x * y % p
theorem mmn_cast (p x y : Nat) : (x : Int) * (y : Int) % (p : Int) = (mmn p x y : Int) := by unfold mmn; simp

theorem mul_el (p a : Nat) (x : Int) (h3 : 3 ≤ p) : (a : Int) * x % (p : Int) = ((a * el p x % p : Nat) : Int) := by
  rw [show ((a * el p x % p : Nat) : Int) = (a : Int) * ((el p x : Nat) : Int) % (p : Int) from by simp, el_cast p x h3, Int.mul_emod (a : Int) (x % (p : Int)) p, Int.emod_emod_of_dvd x (Int.dvd_refl _), ← Int.mul_emod]

set_option maxRecDepth 100000 in
set_option maxHeartbeats 4000000 in
theorem invs_any (p b cap : Nat) (a : Option Addr) (zs : List Int) (w : World) (hpr : Num.Prime p) (h3 : 3 ≤ p) (hm : p ≤ 2147483647) (hp : w.cell? ⟨b, 0, none⟩ = some (.int .i64 p))
    (hlen : zs.length * 8 ≤ 140737488355328) (hzs : ∀ j, j < zs.length → -9223372036854775808 ≤ zat zs j ∧ zat zs j ≤ 9223372036854775807) (hrow : RowB w.heap.size w a zs) :
    Calls Tryz.prog 255 #[.pointer (some ⟨b, 0, none⟩), .slice a zs.length cap] w fun e w' => ∃ o : Nat → Nat, e = .returned (.slice (some ⟨w.heap.size + 1, 0, none⟩) zs.length zs.length) ∧
      (∀ j, j < zs.length → o j = invn p (zat zs j)) ∧ Out w.heap.size zs.length p o w' ∧ Below w.heap.size w w' := by
  have hmk := fun n h1 h2 w => run_make_row' (P := Tryz.prog) 23 3 (.int .i64 0) 8 Tryz.underlying23 intInfo rfl .i64 .i64 n h1 h2 w
  have hmk2 := hmk zs.length (by omega) (by omega)
  have HZ := hid hzs
  have HR := hid hrow
  have HP := hid hpr
  have hb : b < w.heap.size := by
    rcases Nat.lt_or_ge b w.heap.size with g | g
    · exact g
    · simp [World.cell?, Array.getElem?_eq_none g] at hp
  clear hmk hzs hrow hpr
  refine (callsIn_wide (n := 8)).1 ?_
  refine callsIn_of_wp_marks Tryz.func255 rfl trivial ?_ rfl
  simp only [Tryz.ntmps255, List.size_toArray, List.length_cons, List.length_nil, Nat.reduceAdd, Nat.reduceSub, Array.replicate_succ, Array.replicate_zero, List.push_toArray, List.append_toArray, List.nil_append, List.cons_append]
  have hmx : Tryz.prog.follows .mixedOrders = true := by kernel_rfl
  gi_wp2
  gi_loopw [6, 17] (fun pv iv wr => ∃ (k : Nat) (o : Nat → Nat), k ≤ zs.length ∧ iv = .int .i64 k ∧ pv = .int .i64 (pkI p zs k) ∧ Hid (Out w.heap.size zs.length p o wr) ∧ Hid (Boxes w.heap.size zs.length b wr) ∧ Hid (∀ j, j < k → o j = pkI p zs j) ∧ Hid (Below w.heap.size w wr) ∧ wr.heap.size = w.heap.size + 3)
    (fun _ iv _ => zs.length - (intOf iv).toNat)
  case atStart =>
    refine ⟨0, fun _ => 0, Nat.zero_le _, rfl, rfl, ⟨fun j hj => ?_, fun j hj => ?_, fun j _ => by omega⟩, ⟨?_, ?_⟩, fun j hj => by omega, ?_, by simp⟩
    · rw [World.cell?_alloc_lt _ _ ⟨w.heap.size + 1, j, none⟩ (by simp), World.cell?_alloc_at _ _ _ _ (by simp)]
      simp [madeCells, hj, Nat.mod_one]
    · rw [World.frozen?_alloc_old _ _ ⟨w.heap.size + 1, j, none⟩ (by simp)]
      simp
    · rw [World.cell?_alloc_lt _ _ ⟨w.heap.size, 0, none⟩ (by simp; omega), World.cell?_alloc_lt _ _ ⟨w.heap.size, 0, none⟩ (by simp), World.cell?_alloc_at _ _ _ _ rfl]
      rfl
    · rw [World.cell?_alloc_at _ _ _ _ (by simp)]
      rfl
    · exact (((Below.refl _ _).alloc (Nat.le_refl _) _).alloc (by simp) _).alloc (by simp; omega) _
  case round =>
    obtain ⟨k, o, hk, rfl, rfl, hout, hbox, hoj, hbel, hsz⟩ := hrel
    by_cases hlt : k < zs.length
    · have hlt2 : (k : Int) < (zs.length : Int) := by omega
      obtain ⟨bl, ol, rfl, hbl, hcl⟩ := HR.out k hlt
      have hcl2 := (hbel.out.cell (p := ⟨bl, ol + k, none⟩) hbl).trans hcl
      have hob := hbox.out.obox
      have hfb := hbox.out.fbox
      have hok := hout.out.cells k hlt
      have hos := hout.out.soft k hlt
      have hpc := (hbel.out.cell (p := ⟨b, 0, none⟩) hb).trans hp
      obtain ⟨hx1, hx2⟩ := HZ.out k hlt
      have HS := hid (pkI_succ p zs k hlt)
      have hpl := pkI_lt p HP.out h3 zs k
      generalize zat zs k = x at *
      clear hcl
      have hpc2 : ∀ v, (wr.setCell ⟨w.heap.size + 1, k, none⟩ v).cell? ⟨b, 0, none⟩ = some (.int .i64 p) := fun v => by rw [cell_far _ _ _ _ (by show w.heap.size + 1 ≠ b; omega)]; exact hpc
      have HPC := hid hpc2
      have HO2 := hid (hout.out.set hlt hpl)
      have HB2 := hid (hbox.out.far (a := ⟨w.heap.size + 1, k, none⟩) (by simp) (by simp) (.int .i64 (pkI p zs k : Int)))
      have HL2 := hid (hbel.out.setCell (p := ⟨w.heap.size + 1, k, none⟩) (by simp) (.int .i64 (pkI p zs k : Int)))
      have HJ2 : Hid (∀ j, j < k + 1 → updI o k (pkI p zs k) j = pkI p zs j) := fun j hj => by
        unfold updI
        by_cases hjk : j = k
        · rw [if_pos hjk, hjk]
        · rw [if_neg hjk]; exact hoj.out j (by omega)
      clear hpc2 hpc
      gi_wp2_with fail
      refine ⟨trivial, (callsIn_wide.2 (of_any p b x _ h3 hm (HPC.out _) hx1 hx2)).mono ?_⟩
      rintro e w2 ⟨rfl, rfl⟩
      by_cases hz : x % (p : Int) = 0
      · have hzb : (x % (p : Int) != 0) = false := by rw [hz]; rfl
        rw [if_pos hz] at HS
        clear hz
        gi_wp2_with fail
        go_roundw
        case rel => exact ⟨k + 1, _, by omega, by go_num, by rw [HS.out], HO2, HB2, HJ2, HL2, by simp [World.setCell]; exact hsz⟩
        case measure => simp [intOf]; omega
      · have hzb : (x % (p : Int) != 0) = true := by rw [bne_iff_ne]; exact hz
        rw [if_neg hz] at HS
        clear hz
        gi_wp2_with fail
        refine ⟨trivial, (callsIn_wide.2 (mul_any p b (pkI p zs k : Int) x _ h3 hm (HPC.out _) (by omega) (by omega) hx1 hx2)).mono ?_⟩
        rintro e w2 ⟨rfl, rfl⟩
        gi_wp2_with fail
        go_roundw
        case rel => exact ⟨k + 1, _, by omega, by go_num, by rw [HS.out, mul_el p _ x h3], HO2, HB2, HJ2, HL2, by simp [World.setCell]; exact hsz⟩
        case measure => simp [intOf]; omega
    · have hlt2 : ¬ (k : Int) < (zs.length : Int) := by omega
      have hkn : k = zs.length := by omega
      subst hkn
      have hfb := hbox.out.fbox
      have hob := hbox.out.obox
      have hpl := pkI_lt p HP.out h3 zs zs.length
      have HPN := hid (pkI_nd p HP.out h3 zs zs.length)
      have hpc := (hbel.out.cell (p := ⟨b, 0, none⟩) hb).trans hp
      have HPC := hid hpc
      clear hpc
      have hv0 := invn_lt p (pkI p zs zs.length : Int) h3
      have HIN := hid (inv_any p b (pkI p zs zs.length : Int) wr h3 hm HPC.out (by omega) (by omega))
      rw [inv_ref p _ HP.out h3] at HIN
      have HONE : Hid (invn p (pkI p zs zs.length : Int) * pkI p zs zs.length % p = 1) := by
        have hne : ((pkI p zs zs.length : Nat) : Int) % (p : Int) ≠ 0 := fun h => HPN.out (Int.ofNat_dvd.1 (Int.dvd_of_emod_eq_zero h))
        have := inv_one HP.out h3 hne
        rw [el_nat' p _ hpl] at this
        exact this
      generalize invn p (pkI p zs zs.length : Int) = v0 at *
      gi_wp2_with fail
      refine ⟨trivial, (callsIn_wide.2 (HIN.out)).mono ?_⟩
      rintro e w2 ⟨rfl, rfl⟩
      clear HIN
      gi_wp2_with fail
      refine ⟨trivial, (back_in Fence.wide _ trivial rfl _ _ _ _).mono ?_⟩
      rintro e w3 ⟨rfl, rfl⟩
      gi_wp2_with fail
      have HO0 := hid ((hout.out.alloc (by omega) (.cells #[.int .i64 (v0 : Int)] 3)).alloc (by simp; omega) (.cells #[.slice a zs.length cap] 23))
      have HX0 := hid ((hbox.out.alloc (by omega) (.cells #[.int .i64 (v0 : Int)] 3)).alloc (by simp; omega) (.cells #[.slice a zs.length cap] 23))
      have HW0 := hid ((hbel.out.alloc (by omega) (.cells #[.int .i64 (v0 : Int)] 3)).alloc (by simp; omega) (.cells #[.slice a zs.length cap] 23))
      have HV0 : Hid (((w2.alloc (.cells #[.int .i64 (v0 : Int)] 3)).alloc (.cells #[.slice a zs.length cap] 23)).cell? ⟨w.heap.size + 3, 0, none⟩ = some (.int .i64 (v0 : Int))) := by
        unfold Hid
        rw [World.cell?_alloc_lt _ _ ⟨w.heap.size + 3, 0, none⟩ (by simp; omega), World.cell?_alloc_at _ _ _ _ (by omega)]; rfl
      have HF0 : Hid (((w2.alloc (.cells #[.int .i64 (v0 : Int)] 3)).alloc (.cells #[.slice a zs.length cap] 23)).frozen? ⟨w.heap.size + 3, 0, none⟩ = false) := by
        unfold Hid
        rw [World.frozen?_alloc_old _ _ ⟨w.heap.size + 3, 0, none⟩ (by simp; omega), ← hsz]; simp
      have HS0 : Hid (((w2.alloc (.cells #[.int .i64 (v0 : Int)] 3)).alloc (.cells #[.slice a zs.length cap] 23)).cell? ⟨w.heap.size + 3 + 1, 0, none⟩ = some (.slice a zs.length cap)) := by
        unfold Hid
        rw [World.cell?_alloc_at _ _ _ _ (by simp; omega)]; rfl
      have HR0 := hid (RowB.below HW0.out HR.out)
      have HZ0 : Hid (((w2.alloc (.cells #[.int .i64 (v0 : Int)] 3)).alloc (.cells #[.slice a zs.length cap] 23)).heap.size = w.heap.size + 5) := by unfold Hid; simp; omega
      generalize (w2.alloc (.cells #[.int .i64 (v0 : Int)] 3)).alloc (.cells #[.slice a zs.length cap] 23) = W0 at *
      refine wpIn_rangeFunc_ownG rfl (by omega) (gf := 276) (lb := #[.pointer (some ⟨w.heap.size + 3 + 1, 0, none⟩)]) rfl trivial (enters_of Tryz.func276 (by kernel_rfl) rfl)
        (back_stops Fence.wide 7 trivial rfl (by omega) (w.heap.size + 3 + 1) w.heap.size cap a zs (by omega) W0 (by rw [HZ0.out]; omega) HS0.out (by rw [HZ0.out]; omega) HR0.out)
        (fun h k => h.trans k)
        (fun W l q q' hl h h1 h2 => ⟨belowK_b (w := W0) (by rw [HZ0.out]; omega) W l q q' hl h h1 h2, World.cell?_of_block (World.putObj_heap_other (by rw [HZ0.out] at hl; simp; omega))⟩)
        (Below.refl _ _) (fun _ => rfl)
        (fun pre W => (∃ o v, Out w.heap.size zs.length p o W ∧ Boxes w.heap.size zs.length b W ∧ v < p ∧ W.cell? ⟨w.heap.size + 3, 0, none⟩ = some (.int .i64 (v : Int)) ∧ W.frozen? ⟨w.heap.size + 3, 0, none⟩ = false ∧ (∀ k, k ≤ zs.length → Came zs pre k → IG p zs (zs.length - k) o v)) ∧ Below w.heap.size w W)
        (fun _ _ _ => False)
        (OwnFrom.and (Own.from (fun s A B row hs hg hr => by
          obtain ⟨o, v, h1, h2, h4, h5, h6, h7⟩ := hs
          exact ⟨o, v, h1.kept hg hr, h2.kept hg hr, h4, cell_kept h5 hg hr, (frozen_kept h5 hg hr).trans h6, h7⟩) _) (ownFrom_below (Nat.le_refl _) (by rw [HZ0.out]; omega)))
        (fun _ _ _ _ _ hs _ _ => hs)
        ⟨⟨o, v0, HO0.out, HX0.out, hv0, HV0.out, HF0.out, fun k hk hc => by
          have hk0 := came_length hc
          simp at hk0
          subst hk0
          exact ⟨fun j hj => hoj.out j (by omega), fun j h1 h2 => by omega, HONE.out⟩⟩, HW0.out⟩
        (fun x => { tmps := #[.pointer (some ⟨b, 0, none⟩), .slice a zs.length cap, .pointer (some ⟨w.heap.size, 0, none⟩), undef, .slice none 0 0, .pointer (some ⟨w.heap.size + 1 + 1, 0, none⟩), .int .i64 (pkI p zs zs.length : Int), u7, u8, .pointer (some ⟨w.heap.size + 3, 0, none⟩), .int .i64 (x.val : Int), .int .i64 (zat zs x.val), .slice a zs.length cap, .int .i64 zs.length, .slice (some ⟨w.heap.size + 1, 0, none⟩) zs.length zs.length, .slice a zs.length cap, .int .i64 zs.length, .int .i64 zs.length, .bool false, u19, u20, u21, u22, u23, u24, u25, u26, u27, u28, u29, u30, u31, u32, u33, u34, .pointer (some ⟨b, 0, none⟩), .int .i64 (pkI p zs zs.length : Int), .int .i64 (v0 : Int), .slice a zs.length cap, .func (.func 276) #[] #[.pointer (some ⟨w.heap.size + 3 + 1, 0, none⟩)], .int .i64 (x.val : Int), .int .i64 (zat zs x.val), undef, undef, undef, undef, undef, undef, undef, undef, undef, undef, undef, undef, undef, undef, undef, undef, undef, undef, undef, undef, undef, undef], defers := [] })
        ?assign ?body ?done ?stop
      case assign =>
        intro l x W K hK
        gi_wp2
        exact hK
      case body =>
        rintro l pre x W ⟨⟨o', v, hO, hB, hv, hvc, hvf, hig⟩, hbl⟩ hpl2
        have hxl := x.isLt
        have hob2 := hB.obox
        have hfb2 := hB.fbox
        have hok := hO.cells x.val hxl
        have hos := hO.soft x.val hxl
        have hol := hO.lt x.val hxl
        have hpc := (hbl.cell (p := ⟨b, 0, none⟩) hb).trans hp
        have HPC2 := hid hpc
        obtain ⟨hz1, hz2⟩ := HZ.out x.val hxl
        have HOUT := hid hO
        have HBOX := hid hB
        have HBL := hid hbl
        have HIG := hid hig
        clear hpc hO hB hbl hig
        have HSKIP : Hid (zat zs x.val % (p : Int) = 0 → ∀ k, k ≤ zs.length → Came zs (pre ++ [x]) k → IG p zs (zs.length - k) (updI o' x.val 0) v) := by
          intro hz k hk hc
          obtain ⟨k', rfl⟩ : ∃ k', k = k' + 1 := by
            cases k with
            | zero => have := came_length hc; simp at this
            | succ k' => exact ⟨k', rfl⟩
          obtain ⟨hc1, hc2⟩ := came_inv hc
          have hg := HIG.out k' (by omega) hc1
          rw [show zs.length - k' = x.val + 1 from by omega] at hg
          rw [show zs.length - (k' + 1) = x.val from by omega]
          exact hg.skip h3 hxl hz
        have HTAKE : Hid (zat zs x.val % (p : Int) ≠ 0 → ∀ k, k ≤ zs.length → Came zs (pre ++ [x]) k → IG p zs (zs.length - k) (updI o' x.val (o' x.val * v % p)) (v * el p (zat zs x.val) % p)) := by
          intro hz k hk hc
          obtain ⟨k', rfl⟩ : ∃ k', k = k' + 1 := by
            cases k with
            | zero => have := came_length hc; simp at this
            | succ k' => exact ⟨k', rfl⟩
          obtain ⟨hc1, hc2⟩ := came_inv hc
          have hg := HIG.out k' (by omega) hc1
          rw [show zs.length - k' = x.val + 1 from by omega] at hg
          rw [show zs.length - (k' + 1) = x.val from by omega]
          exact hg.take HP.out h3 hxl hz
        generalize zat zs x.val = z at *
        generalize hi : x.val = i at *
        clear hi
        gi_wp2_with fail
        refine ⟨trivial, (CallsIn.inRound l (callsIn_wide.2 (of_any p b z W h3 hm HPC2.out hz1 hz2))).mono ?_⟩
        rintro e w5 ⟨rfl, rfl⟩
        by_cases hz : z % (p : Int) = 0
        · have hzb : (z % (p : Int) == 0) = true := by rw [hz]; rfl
          have HG := hid (HSKIP.out hz)
          clear hz HSKIP HTAKE
          gi_wp2_with fail
          exact ⟨(KeepsOthers.setCell _ _ _).from _, ⟨(Below.refl _ _).setCell (p := ⟨w.heap.size + 1, i, none⟩) (by simp) _, cell_far _ _ _ _ (by simp)⟩,
            ⟨updI o' i 0, v, HOUT.out.set hxl (by omega), HBOX.out.far (by simp) (by simp) _, hv, (cell_far _ _ _ _ (by simp)).trans hvc, by rw [World.frozen?_setCell]; exact hvf, HG.out⟩, HBL.out.setCell (p := ⟨w.heap.size + 1, i, none⟩) (by simp) _⟩
        · have hzb : (z % (p : Int) == 0) = false := by rw [beq_eq_false_iff_ne]; exact hz
          have HG := hid (HTAKE.out hz)
          clear hz HSKIP HTAKE
          have HM1 : Hid (∀ W : World, W.cell? ⟨b, 0, none⟩ = some (.int .i64 p) → Calls Tryz.prog 121 #[.pointer (some ⟨b, 0, none⟩), .int .i64 (o' i : Int), .int .i64 (v : Int)] W fun e w' => e = .returned (.int .i64 (mmn p (o' i) v : Int)) ∧ w' = W) := by
            intro W hW
            have := mul_any p b (o' i : Int) (v : Int) W h3 hm hW (by omega) (by omega) (by omega) (by omega)
            rw [mmn_cast] at this
            exact this
          have HM2 : Hid (∀ W : World, W.cell? ⟨b, 0, none⟩ = some (.int .i64 p) → Calls Tryz.prog 121 #[.pointer (some ⟨b, 0, none⟩), .int .i64 (v : Int), .int .i64 z] W fun e w' => e = .returned (.int .i64 (mmn p v (el p z) : Int)) ∧ w' = W) := by
            intro W hW
            have := mul_any p b (v : Int) z W h3 hm hW (by omega) (by omega) hz1 hz2
            rw [mul_el p v z h3] at this
            exact this
          have HB3 : Hid (∀ u, (w5.setCell ⟨w.heap.size + 1, i, none⟩ u).cell? ⟨b, 0, none⟩ = some (.int .i64 p)) := fun u => (cell_far _ _ _ _ (by show w.heap.size + 1 ≠ b; omega)).trans HPC2.out
          gi_wp2_with fail
          gi_cut [] from 49 (fun wc => wc = (w5.setCell ⟨w.heap.size + 1, i, none⟩ (.int .i64 (mmn p (o' i) v : Int))).drew)
          case first =>
            have hS0 : w5.drew.cell? ⟨w.heap.size + 1 + 1, 0, none⟩ = some (.slice (some ⟨w.heap.size + 1, 0, none⟩) zs.length zs.length) ∧ w5.drew.cell? ⟨w.heap.size, 0, none⟩ = some (.pointer (some ⟨b, 0, none⟩)) ∧ w5.drew.cell? ⟨w.heap.size + 3, 0, none⟩ = some (.int .i64 (v : Int)) := ⟨hob2, hfb2, hvc⟩
            refine wpIn_region_R (S := fun W => W.cell? ⟨w.heap.size + 1 + 1, 0, none⟩ = some (.slice (some ⟨w.heap.size + 1, 0, none⟩) zs.length zs.length) ∧ W.cell? ⟨w.heap.size, 0, none⟩ = some (.pointer (some ⟨b, 0, none⟩)) ∧ W.cell? ⟨w.heap.size + 3, 0, none⟩ = some (.int .i64 (v : Int))) hmx ?_
            show wpAnyR _ _ _ _ _ _ _ 11 (Array.replicate 11 false) _ _
            refine wpAnyR_take (i := 1) (v := .int .i64 (i : Int)) (noDefer_of_B (by kernel_rfl)) rfl (by kernel_rfl) (by kernel_rfl) (by kernel_rfl) (fun _ _ _ h => h) ⟨Or.inl ⟨by rfl, fun W hS => ?_⟩, fun W => ?_⟩ hS0 ?_
            · obtain ⟨s1, s2, s3⟩ := hS
              go_simp
            · first | rfl | go_simp
            refine wpAnyR_take (i := 4) (v := .int .i64 (i : Int)) (noDefer_of_B (by kernel_rfl)) rfl (by kernel_rfl) (by kernel_rfl) (by kernel_rfl) (fun _ _ _ h => h) ⟨Or.inl ⟨by rfl, fun W hS => ?_⟩, fun W => ?_⟩ hS0 ?_
            · obtain ⟨s1, s2, s3⟩ := hS
              go_simp
            · first | rfl | go_simp
            refine wpAnyR_take (i := 0) (v := .slice (some ⟨w.heap.size + 1, 0, none⟩) zs.length zs.length) (noDefer_of_B (by kernel_rfl)) rfl (by kernel_rfl) (by kernel_rfl) (by kernel_rfl) (fun _ _ _ h => h) ⟨Or.inl ⟨by rfl, fun W hS => ?_⟩, fun W => ?_⟩ hS0 ?_
            · obtain ⟨s1, s2, s3⟩ := hS
              go_simp
            · first | rfl | go_simp
            refine wpAnyR_take (i := 3) (v := .slice (some ⟨w.heap.size + 1, 0, none⟩) zs.length zs.length) (noDefer_of_B (by kernel_rfl)) rfl (by kernel_rfl) (by kernel_rfl) (by kernel_rfl) (fun _ _ _ h => h) ⟨Or.inl ⟨by rfl, fun W hS => ?_⟩, fun W => ?_⟩ hS0 ?_
            · obtain ⟨s1, s2, s3⟩ := hS
              go_simp
            · first | rfl | go_simp
            refine wpAnyR_take (i := 2) (v := .pointer (some ⟨b, 0, none⟩)) (noDefer_of_B (by kernel_rfl)) rfl (by kernel_rfl) (by kernel_rfl) (by kernel_rfl) (fun _ _ _ h => h) ⟨Or.inl ⟨by rfl, fun W hS => ?_⟩, fun W => ?_⟩ hS0 ?_
            · obtain ⟨s1, s2, s3⟩ := hS
              go_simp
            · first | rfl | go_simp
            refine wpAnyR_take (i := 7) (v := .int .i64 (v : Int)) (noDefer_of_B (by kernel_rfl)) rfl (by kernel_rfl) (by kernel_rfl) (by kernel_rfl) (fun _ _ _ h => h) ⟨Or.inl ⟨by rfl, fun W hS => ?_⟩, fun W => ?_⟩ hS0 ?_
            · obtain ⟨s1, s2, s3⟩ := hS
              go_simp
            · first | rfl | go_simp
            refine wpAnyR_take (i := 5) (v := .pointer (some ⟨w.heap.size + 1, i, none⟩)) (noDefer_of_B (by kernel_rfl)) rfl (by kernel_rfl) (by kernel_rfl) (by kernel_rfl) (fun _ _ _ h => h) ⟨Or.inl ⟨by rfl, fun W hS => ?_⟩, fun W => ?_⟩ hS0 ?_
            · obtain ⟨s1, s2, s3⟩ := hS
              go_simp
            · first | rfl | go_simp
            refine wpAnyR_one (i := 6) (by kernel_rfl) ?_
            refine YieldsR.step (S := fun W => W.cell? ⟨w.heap.size + 1, i, none⟩ = some (.int .i64 (o' i : Int))) (v := .int .i64 (o' i : Int)) (noDefer_of_B (by kernel_rfl)) rfl ⟨Or.inl ⟨by rfl, fun W hS => ?_⟩, fun W => ?_⟩ hok ⟨hS0, ?_⟩
            · go_simp
            · first | rfl | go_simp
            refine wpAnyR_one (i := 8) (by kernel_rfl) ?_
            refine wpOpIn_step rfl (fun K' hK' => ?_)
            rw [if_pos (by rfl)]
            go_simp
            refine ⟨trivial, (CallsIn.inRound l (callsIn_wide.2 (HM1.out _ (by exact HPC2.out)))).mono ?_⟩
            rintro e w6 ⟨rfl, rfl⟩
            refine hK' _ _ ⟨hS0, ?_⟩
            clear hK' K'
            refine wpAnyR_one (i := 9) (by kernel_rfl) ?_
            refine YieldsR.step (S := fun _ => True) (v := .pointer (some ⟨w.heap.size + 1, i, none⟩)) (noDefer_of_B (by kernel_rfl)) rfl ⟨Or.inl ⟨by rfl, fun W hS => ?_⟩, fun W => ?_⟩ trivial ⟨hS0, ?_⟩
            · go_simp
            · first | rfl | go_simp
            refine wpAnyR_one (i := 10) (by kernel_rfl) ?_
            refine wpOpIn_step rfl (fun K' hK' => ?_)
            rw [if_pos (by rfl)]
            go_simp
            refine hK' _ _ ⟨⟨(cell_far _ _ _ _ (by simp)).trans hob2, (cell_far _ _ _ _ (by simp)).trans hfb2, (cell_far _ _ _ _ (by simp)).trans hvc⟩, wpAnyR_done (by kernel_rfl) ?_ _⟩
            clear hK' K'
            gi_wp2_with fail
            gi_meet
            case rel => rfl
          case rest =>
            subst hcut
            gi_wp2_with fail
            refine ⟨trivial, (CallsIn.inRound l (callsIn_wide.2 (HM2.out _ (by exact HB3.out _)))).mono ?_⟩
            rintro e w7 ⟨rfl, rfl⟩
            gi_wp2_with fail
            have l1 : mmn p (o' i) v < p := Nat.mod_lt _ (by omega)
            have l2 : mmn p v (el p z) < p := Nat.mod_lt _ (by omega)
            exact ⟨((KeepsOthers.setCell _ _ _).trans ((KeepsOthers.setCell _ _ _).trans (KeepsOthers.drew _))).from _,
              ⟨(((Below.refl _ _).setCell (p := ⟨w.heap.size + 1, i, none⟩) (by simp) _).setCell (p := ⟨w.heap.size + 3, 0, none⟩) (by simp) _).drew, (cell_far _ _ _ _ (by simp)).trans (cell_far _ _ _ _ (by simp))⟩,
              ⟨updI o' i (mmn p (o' i) v), mmn p v (el p z), ((HOUT.out.set hxl l1).far (a := ⟨w.heap.size + 3, 0, none⟩) (by simp) _).drew, ((HBOX.out.far (a := ⟨w.heap.size + 1, i, none⟩) (by simp) (by simp) _).far (a := ⟨w.heap.size + 3, 0, none⟩) (by simp) (by simp) _).drew, l2, World.cell?_setCell_same _ _ _ ((cell_far _ _ _ _ (by simp)).trans hvc), by rw [World.frozen?_drew, World.frozen?_setCell, World.frozen?_setCell]; exact hvf, HG.out⟩,
              ((HBL.out.setCell (p := ⟨w.heap.size + 1, i, none⟩) (by simp) _).setCell (p := ⟨w.heap.size + 3, 0, none⟩) (by simp) _).drew⟩
      case done =>
        rintro D ys W hD hys ⟨⟨o', v, hO, hB, hv, hvc, hvf, hig⟩, hbl⟩ hK
        have hg := hig zs.length (Nat.le_refl _) hys
        rw [Nat.sub_self] at hg
        have hob2 := hB.obox
        have HOUT := hid hO
        have HBL := hid hbl
        have HG := hid hg
        clear hO hB hbl hig hg hys
        gi_wp2
        refine ⟨by simp, .inl ⟨_, _, rfl, run_takeDeferred hK, ?_⟩⟩
        refine ⟨_, results_tmp rfl _ _ _, o', rfl, fun j hj => HG.out.behind j (Nat.zero_le _) hj, HOUT.out.kept (grownBy_putObj' W D _) (fun r e => by cases e; exact ⟨_, hK, rfl⟩), HBL.out.trans (belowK_b (w := w) (Nat.le_refl _) W D _ _ (by rw [HZ0.out] at hD; omega) hK rfl rfl)⟩
      case stop =>
        rintro D c pre W _ _ h _
        exact h.elim

end Go.Proofs.YtpgnabmkfkcogaaGreatDoor

namespace Go.Proofs.YtpgnabmkfkcogaaGreatDoor
open Go.RowKit

/-- what the i-th product is multiplied by -/
def fc (p : Nat) (xs ys : List Int) (i : Nat) : Int := zat ys i * (invn p (evz p (vskl p xs i xs.length) (zat xs i)) : Int) % (p : Int)

/-- the sum of the first i products -/
def FS (p : Nat) (xs ys : List Int) : Nat → Nat → Int
  | 0 => Pol.zero
  | i + 1 => Pol.add (FS p xs ys i) (Pol.sc (fc p xs ys i) (Pol.vsk (zat xs) i xs.length))

def fsm (p : Nat) (xs ys : List Int) (i : Nat) : Nat → Int := fun j => FS p xs ys i j % (p : Int)
theorem fsm_bounds (p : Nat) (xs ys : List Int) (i j : Nat) (h3 : 3 ≤ p) : 0 ≤ fsm p xs ys i j ∧ fsm p xs ys i j < p := emod_bounds _ p h3
theorem fsm_zero (p : Nat) (xs ys : List Int) (j : Nat) : fsm p xs ys 0 j = 0 := by simp [fsm, FS, Pol.zero]

theorem fsm_succ {p : Nat} (h3 : 3 ≤ p) (xs ys : List Int) (i : Nat) (hi : i < xs.length) (j : Nat) (hj : j < xs.length) : awf p (fsm p xs ys i) (pvan p xs) (zat xs i) (fc p xs ys i) xs.length xs.length j = fsm p xs ys (i + 1) j := by
  unfold awf
  rw [if_pos (by omega), sd_vsk h3 xs i hi (xs.length - j) (by omega), show xs.length - (xs.length - j) = j from by omega]
  unfold fsm
  rw [FS]
  simp only [Pol.add, Pol.sc]
  rw [Int.mul_emod, Int.emod_emod_of_dvd _ (Int.dvd_refl _), ← Int.mul_emod, ← Int.add_emod, Int.mul_comm]

/-- the polynomial through the points -/
def pfit (p : Nat) (xs ys : List Int) : List Int := Pol.mk p (FS p xs ys xs.length) xs.length

theorem ret_fit {a : Option Addr} {n m c : Nat} (h : n = m) : Ending.returned (.tuple #[.slice a n c, .nilIface]) = .returned (.tuple #[.slice a m c, .nilIface]) := by rw [h]

set_option maxHeartbeats 4000000 in
theorem fit_any (p b c1 c2 : Nat) (a1 a2 : Option Addr) (xs ys : List Int) (w : World) (hpr : Num.Prime p) (h3 : 3 ≤ p) (hm : p ≤ 2147483647) (hp : w.cell? ⟨b, 0, none⟩ = some (.int .i64 p))
    (hn : xs.length ≤ 17592186043904) (hf1 : Fits xs) (hf2 : Fits ys) (hr1 : RowB w.heap.size w a1 xs) (hr2 : RowB w.heap.size w a2 ys) (hl : xs.length = ys.length) (hu : Unl p (zat xs) xs.length) :
    Calls Tryz.prog 214 #[.pointer (some ⟨b, 0, none⟩), .slice a1 xs.length c1, .slice a2 ys.length c2] w fun e w' => ∃ (a : Option Addr) (c : Nat),
      e = .returned (.tuple #[.slice a (pfit p xs ys).length c, .nilIface]) ∧ NewR w.heap.size w' a (pfit p xs ys) ∧ Below w.heap.size w w' := by
  have hb : b < w.heap.size := heap_lt hp
  have HA := hid (areunlike_any p b c1 a1 xs w h3 hm hp (by omega) hf1 hr1)
  rw [unlB_yes hu] at HA
  have HFY : Hid (∀ j, j < xs.length → -9223372036854775808 ≤ zat ys j ∧ zat ys j ≤ 9223372036854775807) := fun j hj => hf2 j (by omega)
  have HRY : Hid (∀ k, k < xs.length → ∃ b o, a2 = some ⟨b, o, none⟩ ∧ b < w.heap.size ∧ w.cell? ⟨b, o + k, none⟩ = some (.int .i64 (zat ys k))) := fun k hk => hr2 k (by omega)
  rw [← hl]
  have hbn : ((xs.length : Int) != (xs.length : Int)) = false := by simp
  have HF := hid hf1
  have HR := hid hr1
  have HPR := hid hpr
  obtain ⟨hvl, hvz⟩ := pvan_list h3 xs
  have HVL := hid hvl
  have HVF : Hid (Fits (pvan p xs)) := can_fits hm (Pol.mk_can (by omega) _ _)
  have HSL : Hid (∀ j, j < xs.length → evz p (pdv p (pvan p xs)) (zat xs j) = evz p (vskl p xs j xs.length) (zat xs j)) := fun j hj => slope_eq h3 xs j hj
  clear hf1 hf2 hr1 hr2 hl hu hpr hvl hvz
  have hmk := fun n h1 h2 w => run_make_row' (P := Tryz.prog) 23 3 (.int .i64 0) 8 Tryz.underlying23 Tryz.infoInt rfl .i64 .i64 n h1 h2 w
  have hmk2 := hmk xs.length (by omega) (by omega)
  clear hmk
  go_enter Tryz.func214, Tryz.ntmps214
  go_wp2_with fail
  refine HA.out.mono ?_
  rintro e w1 ⟨rfl, hb1⟩
  have HB1 := hid hb1
  have hs1 := hb1.size
  have HR1 := hid ((HR.out.below hb1).mono hs1)
  have hpc1 := (hb1.cell (p := ⟨b, 0, none⟩) hb).trans hp
  clear hb1 HA
  have HV := hid (vanish_any p b c1 a1 xs w1 h3 hm hpc1 hn HF.out HR1.out)
  clear hpc1
  go_wp2_with fail
  refine HV.out.mono ?_
  rintro e w2 ⟨rfl, hcv, hb2, hs2⟩
  have HCV := hid hcv
  have HB2 : Hid (Below w.heap.size w w2) := HB1.out.trans (hb2.mono hs1)
  have HR2 := hid ((HR1.out.below hb2).mono hb2.size)
  have hs2' : w1.heap.size < w2.heap.size := by omega
  clear hcv hb2 hs2 HV HR1
  go_wp2_with fail
  have HCV3 := hid (HCV.out.below ((Below.refl w2.heap.size w2).alloc (Nat.le_refl _) (.cells (madeCells #[.int .i64 0] xs.length) 3)) hs2')
  have HB3 : Hid (Below w.heap.size w (w2.alloc (.cells (madeCells #[.int .i64 0] xs.length) 3))) := HB2.out.alloc (by omega) _
  have HO3 : Hid (Cells w2.heap.size 0 xs.length (fun _ => 0) (w2.alloc (.cells (madeCells #[.int .i64 0] xs.length) 3))) := ⟨fun j hj => by
    rw [World.cell?_alloc_at _ _ _ _ (by simp)]
    simp [madeCells, hj, Nat.mod_one], fun j hj => by simp⟩
  have HR3 := hid ((HR2.out.below ((Below.refl w2.heap.size w2).alloc (Nat.le_refl _) (.cells (madeCells #[.int .i64 0] xs.length) 3))).mono (show w2.heap.size ≤ (w2.alloc (.cells (madeCells #[.int .i64 0] xs.length) 3)).heap.size by simp))
  have hs3 : w2.heap.size < (w2.alloc (.cells (madeCells #[.int .i64 0] xs.length) 3)).heap.size := by simp
  clear HR2 HCV
  generalize hw3 : w2.alloc (.cells (madeCells #[.int .i64 0] xs.length) 3) = w3 at *
  clear hw3
  have HS := hid (slopes_any p b (pvan p xs).length c1 (some ⟨w1.heap.size, 0, none⟩) a1 (pvan p xs) xs w3 h3 hm ((HB3.out.cell (p := ⟨b, 0, none⟩) hb).trans hp) (by have := HVL.out; omega) (by omega) HVF.out HF.out (HCV3.out.row (Nat.le_refl _) (fun _ _ => rfl) (by omega)) HR3.out)
  refine HS.out.mono ?_
  rintro e w4 ⟨rfl, hcs, hb4, hs4⟩
  have hll := ls_len (fun j => evz p (pdv p (pvan p xs)) (zat xs j)) xs.length
  have hrow4 : RowB w4.heap.size w4 (some ⟨w3.heap.size + 1, 0, none⟩) (ls (fun j => evz p (pdv p (pvan p xs)) (zat xs j)) xs.length) := hcs.row (by omega) (fun j hj => ls_at _ _ _ (by omega)) hs4
  have HB4 : Hid (Below w.heap.size w w4) := HB3.out.trans (hb4.mono (by omega))
  have HI := hid (invs_any p b xs.length (some ⟨w3.heap.size + 1, 0, none⟩) (ls (fun j => evz p (pdv p (pvan p xs)) (zat xs j)) xs.length) w4 HPR.out h3 hm ((HB4.out.cell (p := ⟨b, 0, none⟩) hb).trans hp) (by omega) (fun j hj => by rw [ls_at _ _ _ (by omega)]; have := evz_bounds p (pdv p (pvan p xs)) (zat xs j) h3; omega) hrow4)
  rw [hll] at HI
  have HCV4 := hid (HCV3.out.below hb4 (by omega))
  have HO4 := hid (HO3.out.below hb4 (by omega))
  have hs4' : w3.heap.size < w4.heap.size := by omega
  clear hcs hb4 hs4 hll hrow4 HS HR3 HCV3 HO3
  go_wp2_with fail
  refine HI.out.mono ?_
  rintro e w5 ⟨o, rfl, ho, hout5, hb5⟩
  have HO : Hid (∀ j, j < xs.length → o j = invn p (evz p (vskl p xs j xs.length) (zat xs j))) := fun j hj => by rw [ho j hj, ls_at _ _ _ hj, HSL.out j hj]
  have HOUT5 : Hid (∀ j, j < xs.length → w5.cell? ⟨w4.heap.size + 1, j, none⟩ = some (.int .i64 (o j : Int))) := hout5.cells
  have HCV5 := hid (HCV4.out.below hb5 (by omega))
  have HO5 := hid (HO4.out.below hb5 (by omega))
  have HB5 : Hid (Below w.heap.size w w5) := HB4.out.trans (hb5.mono (by omega))
  have hs5 := hb5.size
  clear ho hout5 hb5 HI HCV4 HO4
  go_wp2_with fail
  go_loopw [36] (fun iv wr => ∃ (k : Nat), k ≤ xs.length ∧ iv = .int .i64 k ∧ Hid (Cells w2.heap.size 0 xs.length (fsm p xs ys k) wr) ∧ Hid (Only w2.heap.size w5 wr))
    (fun iv _ => xs.length - (intOf iv).toNat)
  case atStart => exact ⟨0, Nat.zero_le _, rfl, HO5.out.congr (fun j _ => (fsm_zero p xs ys j).symm), Only.refl _ _⟩
  case round =>
    obtain ⟨k, hk, rfl, hout, honly⟩ := hrel
    have hbw := HB5.out.trans (honly.out.below (show w.heap.size ≤ w2.heap.size by omega))
    by_cases hlt : k < xs.length
    · have hlt2 : (k : Int) < (xs.length : Int) := by omega
      obtain ⟨bx, ox, rfl, hbx, hcx⟩ := HR.out k hlt
      obtain ⟨by', oy, rfl, hby, hcy⟩ := HRY.out k hlt
      have hcx2 := (hbw.cell (p := ⟨bx, ox + k, none⟩) hbx).trans hcx
      have hcy2 := (hbw.cell (p := ⟨by', oy + k, none⟩) hby).trans hcy
      have hci := (honly.out.cell (p := ⟨w4.heap.size + 1, k, none⟩) (by show w4.heap.size + 1 ≠ w2.heap.size; omega)).trans (HOUT5.out k hlt)
      rw [HO.out k hlt] at hci
      have hpc := (hbw.cell (p := ⟨b, 0, none⟩) hb).trans hp
      obtain ⟨hx1, hx2⟩ := HF.out k hlt
      obtain ⟨hy1, hy2⟩ := HFY.out k hlt
      have hil := invn_lt p (evz p (vskl p xs k xs.length) (zat xs k)) h3
      have hcb := emod_bounds (zat ys k * (invn p (evz p (vskl p xs k xs.length) (zat xs k)) : Int)) p h3
      have HM : Hid (∀ W : World, W.cell? ⟨b, 0, none⟩ = some (.int .i64 p) → Calls Tryz.prog 121 #[.pointer (some ⟨b, 0, none⟩), .int .i64 (zat ys k), .int .i64 (invn p (evz p (vskl p xs k xs.length) (zat xs k)) : Int)] W fun e w' => e = .returned (.int .i64 (fc p xs ys k)) ∧ w' = W) :=
        fun W h => mul_any p b _ _ W h3 hm h hy1 hy2 (by omega) (by omega)
      rw [show zat ys k * (invn p (evz p (vskl p xs k xs.length) (zat xs k)) : Int) % (p : Int) = fc p xs ys k from rfl] at hcb
      have HAW : Hid (Calls Tryz.prog 257 #[.pointer (some ⟨b, 0, none⟩), .slice (some ⟨w2.heap.size, 0, none⟩) xs.length xs.length, .slice (some ⟨w1.heap.size, 0, none⟩) (pvan p xs).length (pvan p xs).length, .int .i64 (zat xs k), .int .i64 (fc p xs ys k)] wr.drew fun e w' =>
          e = .returned (.tuple #[]) ∧ Cells w2.heap.size 0 xs.length (awf p (fsm p xs ys k) (pvan p xs) (zat xs k) (fc p xs ys k) xs.length xs.length) w' ∧ Only w2.heap.size wr.drew w') :=
        awr_any p b w2.heap.size xs.length xs.length (pvan p xs).length (some ⟨w1.heap.size, 0, none⟩) (fsm p xs ys k) (pvan p xs) (zat xs k) (fc p xs ys k) wr.drew h3 hm hpc (by omega) HVL.out.symm (by omega) (fun j _ => fsm_bounds p xs ys k j h3) HVF.out hx1 hx2 (by omega) (by omega) hout.out.drew
          (fun j hj => ⟨w1.heap.size, 0, rfl, by omega, ((HCV5.out.only honly.out (by omega)).drew).cells j hj⟩)
      have HST : Hid (∀ j, j < xs.length → awf p (fsm p xs ys k) (pvan p xs) (zat xs k) (fc p xs ys k) xs.length xs.length j = fsm p xs ys (k + 1) j) := fun j hj => fsm_succ h3 xs ys k hlt j hj
      clear hcx hcy hbw
      generalize awf p (fsm p xs ys k) (pvan p xs) (zat xs k) (fc p xs ys k) xs.length xs.length = aw at *
      generalize fc p xs ys k = cc at *
      generalize invn p (evz p (vskl p xs k xs.length) (zat xs k)) = iv at *
      generalize zat ys k = y at *
      generalize zat xs k = x at *
      go_wp2_with fail
      go_region_with (first
        | (go_at_call 121; refine (HM.out _ ?_).mono ?_; exact hpc; rintro e w6 ⟨rfl, rfl⟩)
        | (go_at_call 257; refine HAW.out.mono ?_; rintro e w7 ⟨rfl, hc7, ho7⟩; have HC7 := hid hc7; have HO7 := hid ho7; clear hc7 ho7))
      all_goals
        go_wp2_with fail
        go_roundw
        case rel => exact ⟨k + 1, by omega, by go_num, HC7.out.congr HST.out, honly.out.drew.trans HO7.out⟩
        case measure => simp [intOf]; omega
    · have hlt2 : ¬ (k : Int) < (xs.length : Int) := by omega
      obtain rfl : k = xs.length := by omega
      have hpc := (hbw.cell (p := ⟨b, 0, none⟩) hb).trans hp
      have HW := hid (without_any p b w2.heap.size xs.length xs.length (fsm p xs ys xs.length) wr h3 hm hpc (by omega) (Nat.le_refl _) (fun j _ => by have := fsm_bounds p xs ys xs.length j h3; omega) hout.out)
      have HL : Hid (tpn p (fsm p xs ys xs.length) xs.length = (pfit p xs ys).length) := (Pol.tp_mod p _ _).trans (Pol.mk_length _ _ _).symm
      have htl := tpn_le p (fsm p xs ys xs.length) xs.length
      have HZ : Hid (∀ j, j < (pfit p xs ys).length → zat (pfit p xs ys) j = fsm p xs ys xs.length j) := fun j hj => by
        rw [pfit, Pol.mk_length] at hj
        exact Pol.mk_at p _ _ j hj
      have HBW := hid hbw
      have hsw : w2.heap.size < wr.heap.size := by rw [honly.out.size]; omega
      clear hbw
      go_wp2_with fail
      refine HW.out.mono ?_
      rintro e w6 ⟨rfl, rfl⟩
      go_wp2_with fail
      go_ret2
      exact ⟨_, _, ret_fit HL.out, hout.out.newr (by have := HL.out; omega) HZ.out (by omega) hsw, HBW.out⟩

end Go.Proofs.YtpgnabmkfkcogaaGreatDoor
