/- Package lower: tellCall. Package lower: tell and value, of each expression. Package lower: a map to two numbers, in memory; the frames. Package lower: a function is written. Package lower: a function is written: the walk. -/
import Derived.Test.YtmmgkdcojkmlcaaGreatDoorLFAP
namespace Go.Proofs.YtmmgkdcojkmlcaaGreatDoor
open Go.RowKit

def kst (p : Nat) (z : Int) (kids : List Tr) (s : LwS) (i : Nat) : LwS := (kvs (kfP p z (kids.take i)) s).2
theorem kst_zero (p : Nat) (z : Int) (kids : List Tr) (s : LwS) : kst p z kids s 0 = s := by unfold kst; rw [List.take_zero, kfP_nil]; rfl
theorem kvs_take (p : Nat) (z : Int) : ∀ (kids : List Tr) (s : LwS) (i : Nat) (t : Tr), kids[i]? = some t → kst p z kids s (i + 1) = ((kfO p z t).v (kst p z kids s i)).2 ∧ zat (kvs (kfP p z kids) s).1 i = ((kfO p z t).v (kst p z kids s i)).1
  | [], _, _, _, h => by simp at h
  | x :: r, s, 0, t, h => by
    simp at h
    subst h
    refine ⟨?_, ?_⟩
    · unfold kst
      rw [List.take_succ_cons, List.take_zero, kfP_cons, kfP_nil, List.take_zero, kfP_nil]
      rfl
    · rw [kst_zero, kfP_cons]
      rfl
  | x :: r, s, i + 1, t, h => by
    have ih := kvs_take p z r ((kfO p z x).v s).2 i t (by simpa using h)
    have e : ∀ j, kst p z (x :: r) s (j + 1) = kst p z r ((kfO p z x).v s).2 j := fun j => by
      unfold kst
      rw [List.take_succ_cons, kfP_cons]
      rfl
    rw [e, e]
    refine ⟨ih.1, ?_⟩
    rw [← ih.2, kfP_cons]
    rfl
theorem kst_all (p : Nat) (z : Int) (kids : List Tr) (s : LwS) : kst p z kids s kids.length = (kvs (kfP p z kids) s).2 := by unfold kst; rw [List.take_length]
theorem tszs_split : ∀ (kids : List Tr) (i : Nat), tszs kids = tszs (kids.take i) + tszs (kids.drop i)
  | [], i => by simp [tszs]
  | x :: r, 0 => by simp [tszs]
  | x :: r, i + 1 => by
    have := tszs_split r i
    rw [List.take_succ_cons, List.drop_succ_cons]
    simp only [tszs]
    omega
theorem RmL.kst {p : Nat} {z : Int} {kids : List Tr} {s : LwS} (h : RmL s (tszs kids)) (i : Nat) : RmL (Proofs.YtmmgkdcojkmlcaaGreatDoor.kst p z kids s i) (tszs (kids.drop i)) := by
  have e := tszs_split kids i
  rw [e] at h
  exact h.of ((kvs_le p z (kids.take i) s).more (by omega) (Nat.le_refl _) (Nat.le_refl _)) (kvs_sub p z (kids.take i) s)
theorem tszs_drop {kids : List Tr} {i : Nat} {t : Tr} (h : kids[i]? = some t) : tszs (kids.drop i) = tsz t + tszs (kids.drop (i + 1)) := by
  have hi := (List.getElem?_eq_some_iff.1 h).1
  have e : kids.drop i = t :: kids.drop (i + 1) := by
    rw [← (List.getElem?_eq_some_iff.1 h).2, List.getElem_cons_drop]
  rw [e, tszs]
theorem kvs_bd {p : Nat} {z : Int} {kids : List Tr} {s : LwS} (h : RmL s (tszs kids)) (i : Nat) (hi : i < kids.length) : 0 ≤ zat (kvs (kfP p z kids) s).1 i ∧ zat (kvs (kfP p z kids) s).1 i ≤ 1000000 := by
  obtain ⟨t, ht⟩ : ∃ t, kids[i]? = some t := ⟨_, List.getElem?_eq_getElem hi⟩
  rw [(kvs_take p z kids s i t ht).2]
  have := h.kst (p := p) (z := z) i
  rw [tszs_drop ht] at this
  exact RmL.vb this
theorem pss_take (p : Nat) : ∀ (l : List Int) (j i : Nat) (s : LwS), j < l.length → pss p (l.take (j + 1)) i s = (pss p (l.take j) i s).wr p 13 (zat l j) ((i + j : Nat) : Int) 0
  | [], _, _, _, h => by simp at h
  | x :: r, 0, i, s, _ => by
    rfl
  | x :: r, j + 1, i, s, h => by
    rw [List.take_succ_cons, List.take_succ_cons]
    simp only [pss]
    rw [pss_take p r j (i + 1) _ (by simpa using h), show i + 1 + j = i + (j + 1) by omega]
    simp [zat]
/-- a store into a list of one's own leaves all else -/
theorem TlI.own {p N fd wr fb b Mb : Nat} {z : Int} {lo PB num : Nat} {kz : Int} {nm : List UInt8} {a' : Option Addr} {l c : Nat} {kids : List Tr} {w W : World} {s : LwS} {g i : Nat} {cs : Array Value} {f : Nat × Nat} (h : TlI p N fd wr fb b Mb z lo PB num kz nm a' l c kids w W s) (hg : W.heap[g]? = some (.cells cs 3 f)) (hw : w.heap.size ≤ g) (hN : N ≤ g) (v : Value) : TlI p N fd wr fb b Mb z lo PB num kz nm a' l c kids w (W.setCell ⟨g, i, none⟩ v) s := by
  have ho : ∀ j, j ≠ g → (W.setCell ⟨g, i, none⟩ v).heap[j]? = W.heap[j]? := fun j hj => Below.heap_setCell _ _ _ _ hj
  have hne : ∀ {x : Nat} {cs : Array Value} {t : TypeId} {f : Nat × Nat}, W.heap[x]? = some (.cells cs t f) → t ≠ 3 → x ≠ g := fun hb ht e => by
    subst e
    rw [hg] at hb
    injection hb with hb
    injection hb with _ hb _
    exact ht hb.symm
  have hgb := gb_one W g i v
  obtain ⟨fcs, ff, hf1, hf2⟩ := h.lb.wr'.fld
  obtain ⟨lv, cv, h3, h4, h5⟩ := h.lb.wr'.str
  obtain ⟨es, cl, hm, hr⟩ := h.lb.map
  have hMb : Mb ≠ g := fun e => by subst e; rw [hg] at hm; cases hm
  refine ⟨⟨⟨⟨fcs, ff, (ho fd (hne hf1 (by decide))).trans hf1, hf2⟩, ⟨lv, cv, (ho wr (hne h3 (by decide))).trans h3, h4.kept hgb (own_ne h4 hg (by decide)), h5.kept hgb (own_ne h5 hg (by decide))⟩, h.lb.wr'.hN⟩, (ho b (hne h.lb.body (by decide))).trans h.lb.body, h.lb.map.block (ho Mb hMb), h.lb.hb, h.lb.hM⟩, ⟨(ho PB (hne h.bx.box (by decide))).trans h.bx.box⟩, ShPs.keep (Nat.le_refl _) (fun x _ _ _ hx => ho x (hne hx (by decide))) _ _ _ h.sh, ⟨bl_set h.lk.bel hN v, fun x o hx ht hX => (ho x (by have := (Array.getElem?_eq_some_iff.1 hx).1; omega)).trans (h.lk.keep x o hx ht hX)⟩⟩
/-- what stands in tellCall's first loop -/
def frV (V : List Int) (i j : Nat) : Value := .int .i64 (if j < i then zat V j else 0)

set_option maxRecDepth 100000 in
set_option maxHeartbeats 8000000 in
theorem ltcall_of (p N fd wq fb b Mb : Nat) (z : Int) (hp3 : 3 ≤ p) (hpm : p ≤ 2147483647) (kids : List Tr) (HV : ∀ t, t ∈ kids → VlC p N fd wq fb b Mb z t) (to : Int) (ht : 0 ≤ to ∧ to ≤ 1000000) (s : LwS) (w : World) (lo num : Nat) (kz : Int) (nm : List UInt8) (a' : Option Addr) (l c : Nat) (hl : l = kids.length) (hl4 : kids.length ≤ 4000) (hB : LoB p N fd wq fb b Mb z w s) (hS : ShPs lo w a' kids 0) (hR : RmT s (1 + tszs kids)) :
    Calls Tryz.prog 88 #[.pointer (some ⟨b, 0, none⟩), .agg #[.int .i64 kz, .string (bs nm), .int .i64 (num : Int), .slice a' l c], .int .i64 to] w fun e w' => (∃ v, e = .returned v) ∧ LoB p N fd wq fb b Mb z w' (((pss p (kvs (kfP p z kids) s).1 0 (kvs (kfP p z kids) s).2).ca nm).wr p 12 to 0 0) ∧ LoK true (some Mb) N w w' := by
  have hmx : Tryz.prog.follows .mixedOrders = true := by kernel_rfl
  have HI0 := hid (TlI.begin (num := num) (kz := kz) (nm := nm) (l := l) (c := c) hB hS)
  obtain ⟨PB, hPB⟩ : ∃ P, P = w.heap.size := ⟨_, rfl⟩
  obtain ⟨W0, hW0⟩ : ∃ W, W = w.alloc (.cells #[.int .i64 kz, .string (bs nm), .int .i64 (num : Int), .slice a' l c] 93) := ⟨_, rfl⟩
  rw [← hPB, ← hW0] at HI0
  have HPB := hid hPB
  have HW0 := hid hW0
  have HP : Hid (3 ≤ p ∧ p ≤ 2147483647) := ⟨hp3, hpm⟩
  have HTT := hid ht
  have HT : Hid (I64z to ∧ I64z 0) := ⟨i64_of ht, i64_of (by omega)⟩
  have hRk := hR.kids
  have HRK := hid hRk
  obtain ⟨V, hV⟩ : ∃ V, V = (kvs (kfP p z kids) s).1 := ⟨_, rfl⟩
  obtain ⟨sn, hsn⟩ : ∃ sn, sn = (kvs (kfP p z kids) s).2 := ⟨_, rfl⟩
  have hVl : V.length = l := by rw [hV, kvs_len, kfP_len, hl]
  have hle := kvs_le p z kids s
  rw [← hsn] at hle
  have hll := tszs_ln kids
  have hrl := hR.l
  have hrk := hR.k
  have HL : Hid (sn.L.length + l + 2 ≤ 1000000 ∧ sn.cl.length + 1 ≤ 1000000) := by have := hle.l1; have := hle.k1; unfold Hid; omega
  have HVB : Hid (∀ j, j < l → I64z (zat V j)) := fun j hj => by rw [hV]; exact i64_of (kvs_bd hRk j (by omega))
  have HST : Hid (kst p z kids s 0 = s ∧ kst p z kids s l = sn) := ⟨kst_zero p z kids s, by rw [hl, hsn]; exact kst_all p z kids s⟩
  have HKT : Hid (∀ i t, kids[i]? = some t → kst p z kids s (i + 1) = ((kfO p z t).v (kst p z kids s i)).2 ∧ zat V i = ((kfO p z t).v (kst p z kids s i)).1) := fun i t h => by rw [hV]; exact kvs_take p z kids s i t h
  have HKR : Hid (∀ i t, kids[i]? = some t → RmL (kst p z kids s i) (tsz t)) := fun i t h => by
    have := hRk.kst (p := p) (z := z) i
    rw [tszs_drop h] at this
    exact this.less (by omega)
  have HVV := hid HV
  have HLL := hid hl
  have HVL := hid hVl
  have hlb : l ≤ 4000 := by omega
  have HEQ : Hid (((pss p (kvs (kfP p z kids) s).1 0 (kvs (kfP p z kids) s).2).ca nm).wr p 12 to 0 0 = ((pss p (V.take l) 0 sn).ca nm).wr p 12 to 0 0) := by unfold Hid; rw [← hV, ← hsn, ← hVl, List.take_length]
  obtain ⟨i0, hi, hz0, hz1, hz2⟩ := info_parts (show (Tryz.prog.info? 3).map (fun i => (i.zero, i.size, i.bytes)) = some (some (.int .i64 0), 1, 8) by kernel_rfl)
  obtain ⟨K0, hK0⟩ : ∃ K0, K0 = W0.heap.size := ⟨_, rfl⟩
  obtain ⟨W1, hW1⟩ : ∃ W, W = W0.alloc (.cells (madeCells #[.int .i64 0] l) 3) := ⟨_, rfl⟩
  have hb1 : Below W0.heap.size W0 W1 := by rw [hW1]; exact (Below.refl _ _).alloc (Nat.le_refl _) _
  have HI1 := hid (HI0.out.step (HI0.out.lb.below hb1) (LoK.below hb1 HI0.out.lb.nle))
  have HRW : Hid (W1.rowIs K0 3 l (frV V 0)) := by unfold Hid; rw [hW1, hK0]; exact (World.rowIs_made W0 _ l _).congr (fun i _ => by unfold frV; rw [if_neg (by omega)])
  have HKW : Hid (w.heap.size ≤ K0) := by unfold Hid; rw [hK0]; exact HI0.out.lk.bel.size
  have HKN : Hid (N ≤ K0) := by unfold Hid; rw [hK0]; exact HI0.out.lb.nle
  have HW1 := hid hW1
  have HKK := hid hK0
  obtain ⟨y0, y1, y2, y3⟩ := HI0.out.bx.four
  have z3 := HI1.out.bx.four.2.2.2
  clear hB hS hPB hW0 hR hRk hV hsn hVl hle hll hrl hrk HV hl hl4 hp3 hpm ht hK0 hW1 hb1 y0 y1 y2
  go_enter Tryz.func88, Tryz.ntmps88
  go_wp2_with (first | (rw [← HW0.out, ← HPB.out]) | (refine wpList_make_row _ rfl _ _ _ rfl 3 i0 (.int .i64 0) Tryz.underlying25 hi hz0 hz1 rfl .i64 .i64 l rfl rfl (by rw [hz2]; omega) (by omega) ?_; rw [← HW1.out, ← HKK.out]))
  clear y3 z3 hi hz0 hz1 hz2
  go_loopw [18] (fun iv wr => ∃ (i : Nat), i ≤ l ∧ iv = .int .i64 (i : Int) ∧ Hid (TlI p N fd wq fb b Mb z lo PB num kz nm a' l c kids w wr (kst p z kids s i)) ∧ Hid (wr.rowIs K0 3 l (frV V i))) (fun iv _ => l - (intOf iv).toNat)
  case atStart => exact ⟨0, Nat.zero_le _, rfl, by rw [HST.out.1]; exact HI1, HRW⟩
  case round =>
    obtain ⟨i, hil, rfl, HI, HRi⟩ := hrel
    clear HI1 HRW HI0
    by_cases hlt : i < l
    · have hlt2 : (i : Int) < (l : Int) := by omega
      have hks : IntKind.i64.wrap ((i : Int) + 1) = (i : Int) + 1 := by rw [IntKind.wrap_i64]; omega
      obtain ⟨t, ht⟩ : ∃ t, kids[i]? = some t := ⟨_, List.getElem?_eq_getElem (by rw [← HLL.out]; exact hlt)⟩
      obtain ⟨g, v0, v1, v2, v3, ha, hrow, hsp⟩ := HI.out.row i t ht
      subst ha
      obtain ⟨sk, ss, sm, sa, sl, sc, ef⟩ := hsp.form
      injection ef with e0 ef
      injection ef with e1 ef
      injection ef with e2 ef
      injection ef with e3 ef
      subst e0 e1 e2 e3
      obtain ⟨c0, c1, c2, c3⟩ := hrow.four
      obtain ⟨W2, hW2⟩ : ∃ W, W = wr.alloc (.cells #[.int .i64 sk, .string ss, .int .i64 sm, .slice sa sl sc] 93) := ⟨_, rfl⟩
      have hb2 : Below wr.heap.size wr W2 := by rw [hW2]; exact (Below.refl _ _).alloc (Nat.le_refl _) _
      have hI2 := HI.out.step (HI.out.lb.below hb2) (LoK.below hb2 HI.out.lb.nle)
      have HC := hid (HVV.out t (List.mem_of_getElem? ht) (kst p z kids s i) W2 lo _ hI2.lb (hsp.below hb2) (HKR.out i t ht))
      obtain ⟨q1, q2⟩ := HKT.out i t ht
      rw [← q1, ← q2] at HC
      have HI2 := hid hI2
      have HR2 : Hid (W2.rowIs K0 3 l (frV V i)) := World.rowIs.of_block HRi.out (hb2.block K0 (World.rowIs.lt HRi.out))
      have HW2 := hid hW2
      clear ht hrow hsp hW2 hb2 hI2 q1 q2 HI HRi ef
      go_wp2_with fail
      rw [← HW2.out]
      refine HC.out.mono ?_
      rintro e w3 ⟨rfl, hb3, hk3⟩
      have HI3 := hid (HI2.out.step hb3 hk3)
      have hR3 : w3.rowIs K0 3 l (frV V i) := by
        obtain ⟨cs, h1, h2⟩ := HR2.out
        exact ⟨cs, (hk3.keep K0 _ h1 (by simp [loT]) (fun er => HI2.out.lb.noX K0 er _ _ _ h1)).trans h1, h2⟩
      have r1 := hR3.cell (i := i) hlt
      have r2 := hR3.frozen i
      unfold frV at r1
      obtain ⟨W4, hW4⟩ : ∃ W, W = w3.setCell ⟨K0, i, none⟩ (.int .i64 (zat V i)) := ⟨_, rfl⟩
      have hR4 : W4.rowIs K0 3 l (frV V (i + 1)) := by
        rw [hW4]
        exact (hR3.set i (.int .i64 (zat V i))).congr (fun j _ => by
          by_cases e : j = i
          · rw [if_pos e, e]; unfold frV; rw [if_pos (by omega)]
          · rw [if_neg e]; unfold frV
            by_cases e2 : j < i
            · rw [if_pos e2, if_pos (by omega)]
            · rw [if_neg e2, if_neg (by omega)])
      have HI4 : Hid (TlI p N fd wq fb b Mb z lo PB num kz nm (some ⟨g, 0, none⟩) l c kids w W4 (kst p z kids s (i + 1))) := by
        obtain ⟨cs, h1, _⟩ := hR3
        unfold Hid
        rw [hW4]
        exact HI3.out.own h1 HKW.out HKN.out _
      have HW4 := hid hW4
      have HR4 := hid hR4
      clear hR3 hW4 hR4 hb3 hk3 HC c0 c1 c2 c3
      go_wp2_with fail
      go_roundw
      case rel => exact ⟨i + 1, by omega, by go_num, by rw [HW4.out] at HI4; exact HI4, by rw [HW4.out] at HR4; exact HR4⟩
      case measure => simp [intOf]; omega
    · obtain rfl : i = l := by omega
      have hlt2 : ¬ (i : Int) < (i : Int) := by omega
      rw [HST.out.2] at HI
      obtain ⟨wo, hwo⟩ : ∃ wo, wo = wr := ⟨_, rfl⟩
      rw [← hwo] at HI HRi ⊢
      clear hwo
      go_wp2_with fail
      go_loopw [32] (fun iv wr => ∃ (j : Nat), j ≤ i ∧ iv = .int .i64 (j : Int) ∧ Hid (TlI p N fd wq fb b Mb z lo PB num kz nm a' i c kids w wr (pss p (V.take j) 0 sn)) ∧ Hid (wr.rowIs K0 3 i (frV V i))) (fun iv _ => i - (intOf iv).toNat)
      case atStart => exact ⟨0, Nat.zero_le _, rfl, HI, HRi⟩
      case round =>
        obtain ⟨j, hj, rfl, HJ, HRj⟩ := hrel
        clear HI HRi
        have hpl : (pss p (V.take j) 0 sn).L.length = sn.L.length + j ∧ (pss p (V.take j) 0 sn).cl = sn.cl := by
          have h := pss_M p (V.take j) 0 sn
          exact ⟨by rw [h.2.2.2, List.length_take, HVL.out]; omega, h.2.2.1⟩
        by_cases hlt : j < i
        · have hlt2 : (j : Int) < (i : Int) := by omega
          have hks : IntKind.i64.wrap ((j : Int) + 1) = (j : Int) + 1 := by rw [IntKind.wrap_i64]; omega
          have r1 := HRj.out.cell (i := j) hlt
          unfold frV at r1
          rw [if_pos hlt] at r1
          have b0 := HJ.out.lb.cells4.1
          have HWR := hid (write_any p N fd wq fb 13 (zat V j) (j : Int) 0 (pss p (V.take j) 0 sn) wr HP.out.1 HP.out.2 HJ.out.lb.wr' (by have := HL.out.1; omega) (HVB.out j hlt) (i64_of (by omega)) HT.out.2)
          have HPT : Hid ((pss p (V.take j) 0 sn).wr p 13 (zat V j) (j : Int) 0 = pss p (V.take (j + 1)) 0 sn) := by
            unfold Hid
            rw [pss_take p V j 0 sn (by rw [HVL.out]; exact hlt), Nat.zero_add]
          rw [HPT.out] at HWR
          have HPC : Hid ((pss p (V.take (j + 1)) 0 sn).cells = (pss p (V.take j) 0 sn).cells ∧ (pss p (V.take (j + 1)) 0 sn).M = (pss p (V.take j) 0 sn).M) := by
            unfold Hid
            rw [← HPT.out]
            exact ⟨rfl, rfl⟩
          generalize zat V j = xj at *
          clear hpl HPT
          go_wp2_with fail
          refine HWR.out.mono ?_
          rintro e w5 ⟨⟨v, rfl⟩, hl5, hk5⟩
          have HJ5 := hid (HJ.out.step (HJ.out.lb.step hl5 hk5 HPC.out.1 HPC.out.2) hk5.wide)
          have HR5 : Hid (w5.rowIs K0 3 i (frV V i)) := by
            obtain ⟨cs, h1, h2⟩ := HRj.out
            exact ⟨cs, (hk5.keep K0 _ h1 (by simp [loT]) (by simp)).trans h1, h2⟩
          clear hl5 hk5 r1 b0 HWR
          go_wp2_with fail
          go_roundw
          case rel => exact ⟨j + 1, by omega, by go_num, HJ5, HR5⟩
          case measure => simp [intOf]; omega
        · obtain rfl : j = i := by omega
          have hlt2 : ¬ (j : Int) < (j : Int) := by omega
          obtain ⟨sp, hsp⟩ : ∃ sp, sp = pss p (V.take j) 0 sn := ⟨_, rfl⟩
          rw [← hsp] at HJ hpl HEQ
          have HCA := hid (call_any p N fd wq fb nm sp wr.drew HJ.out.drew.lb.wr' (by have := HL.out.1; omega) (by rw [hpl.2]; have := HL.out.2; omega))
          have HWR : Hid (∀ W, LoW p N fd wq fb W (sp.ca nm) → Calls Tryz.prog 44 #[.pointer (some ⟨wq, 0, none⟩), .int .i64 12, .int .i64 to, .int .i64 0, .int .i64 0] W fun e w' => (∃ v, e = .returned v) ∧ LoW p N fd wq fb w' ((sp.ca nm).wr p 12 to 0 0) ∧ LoK false none N W w') := fun W h => write_any p N fd wq fb 12 to 0 0 (sp.ca nm) W HP.out.1 HP.out.2 h (by have := HL.out.1; simp [LwS.ca, LwS.lv]; omega) HT.out.1 HT.out.2 HT.out.2
          clear hsp hpl
          go_wp2_with fail
          refine wp_region_held_drew (S := fun W => ((W.cell? ⟨b, 0, none⟩ = some (.pointer (some ⟨wq, 0, none⟩)) ∧ W.cell? ⟨b, 1, none⟩ = some (.map (some Mb)) ∧ W.cell? ⟨b, 2, none⟩ = some (.int .i64 z)) ∧ W.cell? ⟨PB, 0, none⟩ = some (.int .i64 kz) ∧ W.cell? ⟨PB, 1, none⟩ = some (.string (bs nm)) ∧ W.cell? ⟨PB, 2, none⟩ = some (.int .i64 (num : Int)) ∧ W.cell? ⟨PB, 3, none⟩ = some (.slice a' j c)) ∧ True) hmx (⟨HJ.out.drew.all, trivial⟩) (fun hHeld => ?_)
          refine tkA 0 (.pointer (some ⟨b, 0, none⟩)) ?_
          simp only [putX]
          refine tkA 1 (.pointer (some ⟨b, 0, none⟩)) ?_
          simp only [putX]
          refine tkA 2 (.pointer (some ⟨b, 0, none⟩)) ?_
          simp only [putX]
          refine tkA 3 (.pointer (some ⟨wq, 0, none⟩)) ?_
          simp only [putX]
          refine tkA 4 (.pointer (some ⟨PB, 1, none⟩)) ?_
          simp only [putX]
          refine tkA 5 (.string (bs nm)) ?_
          simp only [putX]
          refine rdA 6 fun K' hK' => ?_
          go_simp
          refine (HCA.out).mono ?_
          rintro e w6 ⟨⟨v, rfl⟩, hl6, hk6⟩
          have HJ6 := hid (HJ.out.drew.step (HJ.out.drew.lb.step hl6 hk6 rfl rfl) hk6.wide)
          have HW6 := hid (HWR.out w6 hl6)
          clear hl6 hk6
          refine hK'.out _ _ (⟨HJ6.out.all, trivial⟩) (fun hHeld => ?_)
          clear hK' K'
          refine wpAnyH_done (by kernel_rfl) ?_ _
          have b0 := HJ6.out.lb.cells4.1
          go_wp2_with fail
          refine HW6.out.mono ?_
          rintro e w7 ⟨⟨v, rfl⟩, hl7, hk7⟩
          have HJ7 := hid (HJ6.out.step (HJ6.out.lb.step hl7 hk7 rfl rfl) hk7.wide)
          go_wp2_with fail
          go_end0
          exact ⟨⟨_, rfl⟩, by rw [HEQ.out]; exact HJ7.out.lb, HJ7.out.lk⟩

end Go.Proofs.YtmmgkdcojkmlcaaGreatDoor

namespace Go.Proofs.YtmmgkdcojkmlcaaGreatDoor
open Go.RowKit

set_option maxRecDepth 100000 in
set_option maxHeartbeats 4000000 in
theorem tell_call (p N fd wr fb b Mb : Nat) (z : Int) (hp3 : 3 ≤ p) (hpm : p ≤ 2147483647) (hz : 0 ≤ z ∧ z ≤ 1000000) (nm : List UInt8) (at' num : Nat) (kids : List Tr) (hl4 : kids.length ≤ 4000) (HV : ∀ t, t ∈ kids → VlC p N fd wr fb b Mb z t) : TlC p N fd wr fb b Mb z (.node 2 nm at' num kids) := by
  intro to s w lo vs hB hS hR ht0 ht1
  have hmx : Tryz.prog.follows .mixedOrders = true := by kernel_rfl
  obtain ⟨a', c, rfl, hK⟩ := hS
  obtain ⟨l, hl⟩ : ∃ l, l = (kids : List Tr).length := ⟨_, rfl⟩
  obtain ⟨kz, hkz⟩ : ∃ kz : Int, kz = ((2 : Nat) : Int) := ⟨_, rfl⟩
  rw [← hl, ← hkz]
  have q0 : (kz == 0) = false := by rw [hkz]; decide
  have q1 : (kz == 1) = false := by rw [hkz]; decide
  have q2 : (kz == 2) = true := by rw [hkz]; decide
  have q3 : (kz == 3) = false := by rw [hkz]; decide
  have q9 : (kz == 9) = false := by rw [hkz]; decide
  have q10 : (kz == 10) = false := by rw [hkz]; decide
  have q11 : (kz == 11) = false := by rw [hkz]; decide
  have HI0 := hid (TlI.begin (num := num) (kz := kz) (nm := nm) (l := l) (c := c) hB hK)
  obtain ⟨PB, hPB⟩ : ∃ P, P = w.heap.size := ⟨_, rfl⟩
  obtain ⟨W0, hW0⟩ : ∃ W, W = w.alloc (.cells #[.int .i64 kz, .string (bs nm), .int .i64 (num : Int), .slice a' l c] 93) := ⟨_, rfl⟩
  rw [← hPB, ← hW0] at HI0
  have HPB := hid hPB
  have HW0 := hid hW0
  have HR := hid hR
  have HP : Hid (3 ≤ p ∧ p ≤ 2147483647) := ⟨hp3, hpm⟩
  have HT : Hid (I64z to ∧ I64z z ∧ I64z 0) := ⟨i64_of ⟨ht0, ht1⟩, i64_of hz, i64_of (by omega)⟩
  have HTT : Hid (0 ≤ to ∧ to ≤ 1000000) := ⟨ht0, ht1⟩
  obtain ⟨y0, y1, y2, y3⟩ := HI0.out.bx.four
  have hRk : RmT s (1 + tszs kids) := by
    rw [show 1 + tszs kids = tsz (.node 2 nm at' num kids) by simp [tsz]]
    exact hR
  have HEQ : Hid (tlP p z (.node 2 nm at' num kids) to s = ((pss p (kvs (kfP p z kids) s).1 0 (kvs (kfP p z kids) s).2).ca nm).wr p 12 to 0 0) := by
    unfold Hid
    rw [tlP_node]
    rfl
  have HC := hid (ltcall_of p N fd wr fb b Mb z hp3 hpm kids HV to ⟨ht0, ht1⟩ s W0 lo num kz nm a' l c hl hl4 HI0.out.lb HI0.out.sh hRk)
  obtain ⟨c0, c1, c2, c3⟩ := HI0.out.bx.four
  clear hB hK hPB hW0 hR ht0 ht1 hp3 hpm hz hkz hl hRk hl4 HV
  go_enter Tryz.func70, Tryz.ntmps70
  go_wp2_with (rw [← HW0.out, ← HPB.out])
  refine HC.out.mono ?_
  rintro e w1 ⟨⟨v, rfl⟩, hb1, hk1⟩
  go_wp2_with fail
  go_end0
  exact ⟨⟨_, rfl⟩, by rw [HEQ.out]; exact hb1, HI0.out.lk.trans hk1⟩

set_option maxRecDepth 100000 in
set_option maxHeartbeats 4000000 in
theorem tell_if (p N fd wr fb b Mb : Nat) (z : Int) (hp3 : 3 ≤ p) (hpm : p ≤ 2147483647) (hz : 0 ≤ z ∧ z ≤ 1000000) (nm : List UInt8) (at' num : Nat) (x y u : Tr) (HVx : VlC p N fd wr fb b Mb z x) (HTy : TlC p N fd wr fb b Mb z y) (HTu : TlC p N fd wr fb b Mb z u) : TlC p N fd wr fb b Mb z (.node 11 nm at' num [x, y, u]) := by
  intro to s w lo vs hB hS hR ht0 ht1
  have hmx : Tryz.prog.follows .mixedOrders = true := by kernel_rfl
  obtain ⟨a', c, rfl, hK⟩ := hS
  obtain ⟨l, hl⟩ : ∃ l, l = ([x, y, u] : List Tr).length := ⟨_, rfl⟩
  obtain ⟨kz, hkz⟩ : ∃ kz : Int, kz = ((11 : Nat) : Int) := ⟨_, rfl⟩
  rw [← hl, ← hkz]
  have q0 : (kz == 0) = false := by rw [hkz]; decide
  have q1 : (kz == 1) = false := by rw [hkz]; decide
  have q2 : (kz == 2) = false := by rw [hkz]; decide
  have q3 : (kz == 3) = false := by rw [hkz]; decide
  have q9 : (kz == 9) = false := by rw [hkz]; decide
  have q10 : (kz == 10) = false := by rw [hkz]; decide
  have q11 : (kz == 11) = true := by rw [hkz]; decide
  have HI0 := hid (TlI.begin (num := num) (kz := kz) (nm := nm) (l := l) (c := c) hB hK)
  obtain ⟨PB, hPB⟩ : ∃ P, P = w.heap.size := ⟨_, rfl⟩
  obtain ⟨W0, hW0⟩ : ∃ W, W = w.alloc (.cells #[.int .i64 kz, .string (bs nm), .int .i64 (num : Int), .slice a' l c] 93) := ⟨_, rfl⟩
  rw [← hPB, ← hW0] at HI0
  have HPB := hid hPB
  have HW0 := hid hW0
  have HR := hid hR
  have HP : Hid (3 ≤ p ∧ p ≤ 2147483647) := ⟨hp3, hpm⟩
  have HT : Hid (I64z to ∧ I64z z ∧ I64z 0) := ⟨i64_of ⟨ht0, ht1⟩, i64_of hz, i64_of (by omega)⟩
  have HTT : Hid (0 ≤ to ∧ to ≤ 1000000) := ⟨ht0, ht1⟩
  obtain ⟨y0, y1, y2, y3⟩ := HI0.out.bx.four
  have hRk : RmT s (1 + (tsz x + (tsz y + tsz u))) := by
    rw [show 1 + (tsz x + (tsz y + tsz u)) = tsz (.node 11 nm at' num [x, y, u]) by simp [tsz, tszs]]
    exact hR
  have HEQ : Hid (tlP p z (.node 11 nm at' num [x, y, u]) to s = ifL p (kfO p z y) (kfO p z u) to ((kfO p z x).v s).1 ((kfO p z x).v s).2) := by
    unfold Hid
    rw [tlP_node, kfP_cons, kfP_cons, kfP_cons, kfP_nil]
    rfl
  have HC := hid (if_of p N fd wr fb b Mb z hp3 hpm x y u HVx HTy HTu to ⟨ht0, ht1⟩ s W0 lo num kz nm a' l c (by rw [hl]; rfl) HI0.out.lb HI0.out.sh hRk)
  obtain ⟨c0, c1, c2, c3⟩ := HI0.out.bx.four
  clear hB hK hPB hW0 hR ht0 ht1 hp3 hpm hz hkz hl hRk HVx HTy HTu
  go_enter Tryz.func70, Tryz.ntmps70
  go_wp2_with (rw [← HW0.out, ← HPB.out])
  refine HC.out.mono ?_
  rintro e w1 ⟨⟨v, rfl⟩, hb1, hk1⟩
  go_wp2_with fail
  go_end0
  exact ⟨⟨_, rfl⟩, by rw [HEQ.out]; exact hb1, HI0.out.lk.trans hk1⟩

theorem TWs.mem : ∀ {ts : List Tr}, TWs ts → ∀ t, t ∈ ts → TW t
  | x :: r, h, t, ht => by
    rcases List.mem_cons.1 ht with rfl | ht
    · exact h.1
    · exact TWs.mem h.2 t ht
theorem tsz_mem : ∀ {ts : List Tr} {t : Tr}, t ∈ ts → tsz t ≤ tszs ts
  | x :: r, t, ht => by
    rw [tszs]
    rcases List.mem_cons.1 ht with rfl | ht
    · omega
    · have := tsz_mem ht
      omega
theorem lists2 {ts : List Tr} (h : ts.length = 2) : ∃ x y, ts = [x, y] := by
  match ts, h with
  | [x, y], _ => exact ⟨x, y, rfl⟩
theorem lists3 {ts : List Tr} (h : ts.length = 3) : ∃ x y u, ts = [x, y, u] := by
  match ts, h with
  | [x, y, u], _ => exact ⟨x, y, u, rfl⟩
theorem tell_all (p N fd wr fb b Mb : Nat) (z : Int) (hp3 : 3 ≤ p) (hpm : p ≤ 2147483647) (hz : 0 ≤ z ∧ z ≤ 1000000) : ∀ (n : Nat) (t : Tr), tsz t ≤ n → TW t → TlC p N fd wr fb b Mb z t
  | 0, t, h, _ => absurd (tsz_ps t) (by omega)
  | n + 1, .node k nm at' num kids, h, hT => by
    have hs : 1 + tszs kids ≤ n + 1 := h
    have hk : ∀ t, t ∈ kids → TlC p N fd wr fb b Mb z t := fun t ht => tell_all p N fd wr fb b Mb z hp3 hpm hz n t (by have := tsz_mem ht; omega) (TWs.mem hT.2 t ht)
    have hv : ∀ t, t ∈ kids → VlC p N fd wr fb b Mb z t := fun t ht => value_of p N fd wr fb b Mb z t (TWs.mem hT.2 t ht) (hk t ht)
    rcases hT.1 with h | h | h | h | h | h | h
    · obtain ⟨rfl, rfl, hn, h0⟩ := h
      obtain rfl := List.length_eq_zero_iff.1 h0
      exact tell_num p N fd wr fb b Mb z hp3 hpm hz [] at' num hn
    · obtain ⟨rfl, hn, rfl, h0⟩ := h
      obtain rfl := List.length_eq_zero_iff.1 h0
      exact tell_name p N fd wr fb b Mb z hp3 hpm hz nm at' 0 hn.2.1
    · obtain ⟨rfl, hn, rfl, h0⟩ := h
      exact tell_call p N fd wr fb b Mb z hp3 hpm hz nm at' 0 kids h0 hv
    · obtain ⟨rfl, rfl, rfl, h0⟩ := h
      match kids, h0, hk, hv with
      | [x], _, hk, hv => exact tell_minus p N fd wr fb b Mb z hp3 hpm hz [] at' 0 x (hv x (by simp))
    · obtain ⟨h4, h8, rfl, rfl, h0⟩ := h
      obtain ⟨x, y, rfl⟩ := lists2 h0
      exact tell_op p N fd wr fb b Mb z hp3 hpm hz [] at' 0 k ⟨h4, h8⟩ x y (hv x (by simp)) (hv y (by simp))
    · obtain ⟨rfl, hn, rfl, h0⟩ := h
      obtain ⟨x, y, rfl⟩ := lists2 h0
      exact tell_let p N fd wr fb b Mb z hp3 hpm hz nm at' 0 hn.2.1 x y (hv x (by simp)) (hk y (by simp))
    · obtain ⟨h4, h8, rfl, rfl, h0⟩ := h
      obtain ⟨x, y, u, rfl⟩ := lists3 h0
      by_cases h10 : k = 10
      · subst h10
        exact tell_need p N fd wr fb b Mb z hp3 hpm hz [] at' 0 x y u (hv x (by simp)) (hv y (by simp)) (hk u (by simp))
      · obtain rfl : k = 11 := by omega
        exact tell_if p N fd wr fb b Mb z hp3 hpm hz [] at' 0 x y u (hv x (by simp)) (hk y (by simp)) (hk u (by simp))
/-- value, of each expression -/
theorem value_any (p N fd wr fb b Mb : Nat) (z : Int) (hp3 : 3 ≤ p) (hpm : p ≤ 2147483647) (hz : 0 ≤ z ∧ z ≤ 1000000) (t : Tr) (hT : TW t) : VlC p N fd wr fb b Mb z t :=
  value_of p N fd wr fb b Mb z t hT (tell_all p N fd wr fb b Mb z hp3 hpm hz _ t (Nat.le_refl _) hT)

end Go.Proofs.YtmmgkdcojkmlcaaGreatDoor

namespace Go.Proofs.YtmmgkdcojkmlcaaGreatDoor
open Go.RowKit Go.Maps

/-- keys of a map and its values, as values -/
structure KTm {κ ν : Type} (k t : TypeId) (enc : κ → Value) (ev : ν → Value) (ok : κ → Prop) (zv : ν) : Prop where
  e : ∃ e, Tryz.prog.underlying t = some (.map k e) ∧ ∀ w, (zeroValue e).run Tryz.prog w = .ok (ev zv) w
  keyed : Keyed Tryz.prog k
  has : ∀ x, ok x → ∃ l, keyOf Tryz.prog k (enc x) = some l
  inj : ∀ x y, enc x = enc y → x = y
def MapT {κ ν : Type} (enc : κ → Value) (ev : ν → Value) (ok : κ → Prop) (w : World) (B : Nat) (M : κ → Option ν) : Prop :=
  ∃ es clock, w.heap[B]? = some (.map es clock) ∧ (∀ e ∈ es.toList, ∃ x n, e.key = enc x ∧ ok x ∧ M x = some n ∧ e.val = ev n) ∧ (∀ x n, M x = some n → ∃ e ∈ es.toList, e.key = enc x) ∧ es.toList.Pairwise (fun x y => x.key ≠ y.key)
def updT {κ ν : Type} [DecidableEq κ] (M : κ → Option ν) (x : κ) (n : ν) : κ → Option ν := fun y => if y = x then some n else M y
section
variable {κ ν : Type} {k t : TypeId} {enc : κ → Value} {ev : ν → Value} {ok : κ → Prop} {zv : ν} {w w' : World} {B : Nat} {M : κ → Option ν}
theorem MapT.lt (h : MapT enc ev ok w B M) : B < w.heap.size := by
  obtain ⟨es, clock, hb, _⟩ := h
  exact (Array.getElem?_eq_some_iff.1 hb).1
theorem MapT.block (h : MapT enc ev ok w B M) (e : w'.heap[B]? = w.heap[B]?) : MapT enc ev ok w' B M := by
  obtain ⟨es, clock, hb, r⟩ := h
  exact ⟨es, clock, e.trans hb, r⟩
theorem MapT.below (h : MapT enc ev ok w B M) (e : Below w.heap.size w w') : MapT enc ev ok w' B M := h.block (e.block B h.lt)
theorem MapT.new (w : World) : MapT enc ev ok (w.alloc (.map #[] 0)) w.heap.size (fun _ => none) := ⟨#[], 0, (MapKept.heap_alloc w _).1, by simp, by simp, by simp⟩
/-- what a look-up finds -/
theorem MapT.find (K : KTm k t enc ev ok zv) {x : κ} (hx : ok x) {es : Array MapEntry}
    (h1 : ∀ e ∈ es.toList, ∃ x n, e.key = enc x ∧ ok x ∧ M x = some n ∧ e.val = ev n) (h2 : ∀ x n, M x = some n → ∃ e ∈ es.toList, e.key = enc x) :
    (M x = none ∧ (Instr.findKey k (enc x) es.toList).run Tryz.prog w = .ok none w ∧ ∀ e ∈ es.toList, e.key ≠ enc x) ∨ ∃ n j e, M x = some n ∧ (Instr.findKey k (enc x) es.toList).run Tryz.prog w = .ok (some (j, ev n)) w ∧ es.toList[j]? = some e ∧ e.key = enc x := by
  obtain ⟨l, hl⟩ := K.has x hx
  rcases K.keyed.find w hl es.toList (fun e he => by obtain ⟨y, n, hk, hy, _⟩ := h1 e he; rw [hk]; exact K.has y hy) with ⟨r1, r2⟩ | ⟨j, e, r1, r2, r3⟩
  · left
    refine ⟨?_, r1, r2⟩
    cases hM : M x with
    | none => rfl
    | some d =>
      obtain ⟨e, he, hk⟩ := h2 x d hM
      exact absurd hk (r2 e he)
  · right
    obtain ⟨y, n, hk, hy, hM, hv⟩ := h1 e (List.mem_of_getElem? r2)
    obtain rfl := K.inj _ _ (hk.symm.trans r3)
    exact ⟨n, j, e, hM, by rw [r1, hv], r2, r3⟩
theorem MapT.lookup (K : KTm k t enc ev ok zv) (h : MapT enc ev ok w B M) {x : κ} (hx : ok x) (c : Bool) :
    (Instr.lookup t (.map (some B)) (enc x) c).run Tryz.prog w = .ok (if c then .tuple #[ev ((M x).getD zv), .bool (M x).isSome] else ev ((M x).getD zv)) w := by
  obtain ⟨es, clock, hB, h1, h2, _⟩ := h
  obtain ⟨et, hund, hzz⟩ := K.e
  obtain ⟨l, hl⟩ := K.has x hx
  have hck := K.keyed.check w es.isEmpty hl
  have hz := hzz w
  rcases MapT.find (w := w) K hx h1 h2 with ⟨hM, hf, _⟩ | ⟨d, j, e, hM, hf, _, _⟩
  · cases c <;> simp [Instr.lookup, run_underlying hund, Result.andThen, MapKept.run_getObj_map hB, hck, hf, hM, hz]
  · cases c <;> simp [Instr.lookup, run_underlying hund, Result.andThen, MapKept.run_getObj_map hB, hck, hf, hM]
theorem MapT.update [DecidableEq κ] (K : KTm k t enc ev ok zv) (h : MapT enc ev ok w B M) {x : κ} (hx : ok x) (n : ν) :
    ∃ w', (Instr.mapUpdate t (.map (some B)) (enc x) (ev n)).run Tryz.prog w = .ok () w' ∧ MapT enc ev ok w' B (updT M x n) ∧ w.grownBy w' (some B) := by
  obtain ⟨es, clock, hB, h1, h2, h3⟩ := h
  obtain ⟨et, hund, hzz⟩ := K.e
  obtain ⟨l, hl⟩ := K.has x hx
  have hck := K.keyed.check w false hl
  have hst := K.keyed.stays w hl
  have hgr : ∀ o : Obj, w.grownBy { w with heap := w.heap.setIfInBounds B o } (some B) := fun o => ⟨rfl, rfl, rfl, by simp, fun k _ hk => (MapKept.heap_set hB).2 k (fun e => hk (by rw [e]))⟩
  rcases MapT.find (w := w) K hx h1 h2 with ⟨hM, hf, hne⟩ | ⟨d0, j, e, hM, hf, hj, hk⟩
  · refine ⟨_, by simp [Instr.mapUpdate, run_underlying hund, Result.andThen, MapKept.run_getObj_map hB, hck, hf, MapKept.run_setObj_map _ hB]; rfl, ⟨_, _, (MapKept.heap_set hB).1, ?_, ?_, ?_⟩, hgr _⟩
    · intro e he
      simp only [Array.toList_push, List.mem_append, List.mem_singleton] at he
      rcases he with he | rfl
      · obtain ⟨y, d', hk, hy, hM', hv⟩ := h1 e he
        refine ⟨y, d', hk, hy, ?_, hv⟩
        unfold updT
        rw [if_neg (fun hc => by rw [hc, hM] at hM'; cases hM')]
        exact hM'
      · exact ⟨x, n, rfl, hx, by simp [updT], rfl⟩
    · intro y d' hM'
      simp only [Array.toList_push, List.mem_append, List.mem_singleton]
      by_cases hc : y = x
      · exact ⟨_, .inr rfl, by rw [hc]⟩
      · unfold updT at hM'
        rw [if_neg hc] at hM'
        obtain ⟨e, he, hk⟩ := h2 y d' hM'
        exact ⟨e, .inl he, hk⟩
    · simp only [Array.toList_push]
      rw [List.pairwise_append]
      exact ⟨h3, by simp, fun x hx y hy => by rw [List.mem_singleton.1 hy]; exact hne x hx⟩
  · have hes : es[j]? = some e := by simpa using hj
    have hjl : j < es.size := (Array.getElem?_eq_some_iff.1 hes).1
    have hm : (es.modify j fun e => { e with key := enc x, val := ev n }).toList = es.toList.set j { e with key := enc x, val := ev n } := by
      apply List.ext_getElem?
      intro i
      rw [← Array.getElem?_toList.symm]
      rw [List.getElem?_set]
      simp only [Array.getElem?_modify]
      by_cases hi : j = i
      · subst hi
        rw [if_pos rfl, if_pos rfl, hes]
        simp [hjl]
      · rw [if_neg hi, if_neg hi]
        simp
    refine ⟨_, by simp [Instr.mapUpdate, run_underlying hund, Result.andThen, MapKept.run_getObj_map hB, hck, hf, hes, hk, hst, MapKept.run_setObj_map _ hB]; rfl, ⟨_, _, (MapKept.heap_set hB).1, ?_, ?_, ?_⟩, hgr _⟩
    · intro e' he'
      rw [hm] at he'
      obtain ⟨i, hi⟩ := List.getElem?_of_mem he'
      rw [List.getElem?_set] at hi
      by_cases hij : j = i
      · rw [if_pos hij] at hi
        split at hi
        · cases hi
          exact ⟨x, n, rfl, hx, by simp [updT], rfl⟩
        · cases hi
      · rw [if_neg hij] at hi
        obtain ⟨y, d', hk', hy, hM', hv⟩ := h1 e' (List.mem_of_getElem? hi)
        refine ⟨y, d', hk', hy, ?_, hv⟩
        unfold updT
        rw [if_neg]
        · exact hM'
        · rintro rfl
          have := List.pairwise_iff_getElem.1 h3
          obtain ⟨hjl', hje⟩ := List.getElem?_eq_some_iff.1 hj
          obtain ⟨hil', hie⟩ := List.getElem?_eq_some_iff.1 hi
          rcases Nat.lt_or_gt_of_ne hij with hlt' | hlt'
          · exact this j i hjl' hil' hlt' (by rw [hje, hie, hk, hk'])
          · exact this i j hil' hjl' hlt' (by rw [hje, hie, hk, hk'])
    · intro y d' hM'
      rw [hm]
      have hjl' : j < es.toList.length := (List.getElem?_eq_some_iff.1 hj).1
      by_cases hc : y = x
      · exact ⟨_, List.mem_iff_getElem?.2 ⟨j, by rw [List.getElem?_set, if_pos rfl, if_pos hjl']⟩, by rw [hc]⟩
      · unfold updT at hM'
        rw [if_neg hc] at hM'
        obtain ⟨e', he', hk'⟩ := h2 y d' hM'
        obtain ⟨i, hi⟩ := List.getElem?_of_mem he'
        refine ⟨e', List.mem_iff_getElem?.2 ⟨i, ?_⟩, hk'⟩
        rw [List.getElem?_set, if_neg]
        · exact hi
        · rintro rfl
          rw [hi] at hj
          cases hj
          exact hc (K.inj _ _ (hk'.symm.trans hk))
    · rw [hm]
      rw [List.pairwise_iff_getElem]
      intro i i' hi hi' hlt'
      have := List.pairwise_iff_getElem.1 h3
      obtain ⟨hjl', hje⟩ := List.getElem?_eq_some_iff.1 hj
      rw [List.length_set] at hi hi'
      have t := this i i' hi hi' hlt'
      rw [List.getElem_set, List.getElem_set]
      by_cases e1 : j = i
      · subst e1
        rw [if_pos rfl, if_neg (by omega)]
        rw [hje, hk] at t
        exact t
      · rw [if_neg e1]
        by_cases e2 : j = i'
        · subst e2
          rw [if_pos rfl]
          rw [hje, hk] at t
          exact t
        · rw [if_neg e2]
          exact t
end
/-- a function's frame: where it begins, how many cells -/
def frmV (x : Nat × Nat) : Value := .agg #[.int .i64 (x.1 : Int), .int .i64 (x.2 : Int)]
theorem frmK : KTm 9 83 nmk frmV (fun x => x.length ≤ 4000) (0, 0) := ⟨⟨120, Tryz.underlying83, fun w => by kernel_rfl⟩, namK.keyed, namK.has, namK.inj⟩
abbrev FrmA (w : World) (B : Nat) (M : List UInt8 → Option (Nat × Nat)) : Prop := MapT nmk frmV (fun x => x.length ≤ 4000) w B M

end Go.Proofs.YtmmgkdcojkmlcaaGreatDoor

namespace Go.Proofs.YtmmgkdcojkmlcaaGreatDoor
open Go.RowKit

def nmAt (ms : List (List UInt8 × Nat)) (i : Nat) : List UInt8 := match ms[i]? with
  | some x => x.1
  | none => []
/-- the first names stand for the first cells -/
def nmN (ms : List (List UInt8 × Nat)) (s : LwS) : Nat → LwS
  | 0 => s
  | i + 1 => (nmN ms s i).cell.sM (updL (nmN ms s i).M (nmAt ms i) ((nmN ms s i).cells : Int))
def fn0 (s : LwS) : LwS := ⟨s.L, s.cl, 0, fun _ => none⟩
def fn1 (g : FnT) (s : LwS) : LwS := nmN g.more (fn0 s) g.more.length
def fn2 (p : Nat) (g : FnT) (s : LwS) : LwS := (fn1 g s).cell.wr p 5 (g.more.length : Int) 0 0
def fnV (p : Nat) (g : FnT) (s : LwS) : Int × LwS := (kfO p (g.more.length : Int) g.body).v (fn2 p g s)
def fnP (p : Nat) (g : FnT) (s : LwS) : LwS := (fnV p g s).2.wr p 11 (fnV p g s).1 0 0
theorem nmN_is (ms : List (List UInt8 × Nat)) (s : LwS) (h : s.cells = 0 ∧ s.M = fun _ => none) : ∀ i, (nmN ms s i).L = s.L ∧ (nmN ms s i).cl = s.cl ∧ (nmN ms s i).cells = i ∧ ∀ x v, (nmN ms s i).M x = some v → 0 ≤ v ∧ v < i
  | 0 => ⟨rfl, rfl, h.1, fun x v e => by rw [nmN, h.2] at e; cases e⟩
  | i + 1 => by
    obtain ⟨h1, h2, h3, h4⟩ := nmN_is ms s h i
    refine ⟨h1, h2, ?_, fun x v e => ?_⟩
    · show (nmN ms s i).cells + 1 = i + 1
      rw [h3]
    · have e' : updL (nmN ms s i).M (nmAt ms i) ((nmN ms s i).cells : Int) x = some v := e
      unfold updL at e'
      split at e'
      · injection e' with e'
        rw [h3] at e'
        omega
      · have := h4 x v e'
        omega
theorem fn2_room (p : Nat) (g : FnT) (s : LwS) (h1 : s.L.length + 3 * tsz g.body + 5000 ≤ 1000000) (h2 : s.cl.length + tsz g.body ≤ 1000000) (hm : g.more.length ≤ 4000) : RmL (fn2 p g s) (tsz g.body) ∧ (fn2 p g s).L.length = s.L.length + 1 := by
  obtain ⟨e1, e2, e3, e4⟩ := nmN_is g.more (fn0 s) ⟨rfl, rfl⟩ g.more.length
  have el : (fn2 p g s).L.length = s.L.length + 1 := by
    show (((fn1 g s).L ++ [zIns]).set _ _).length = _
    rw [List.length_set, List.length_append]
    show (nmN g.more (fn0 s) g.more.length).L.length + 1 = _
    rw [e1]
    rfl
  refine ⟨⟨by rw [el]; omega, ?_, ?_, fun x v e => ?_⟩, el⟩
  · show (nmN g.more (fn0 s) g.more.length).cells + 1 + tsz g.body ≤ _
    rw [e3]
    omega
  · show (nmN g.more (fn0 s) g.more.length).cl.length + tsz g.body ≤ _
    rw [e2]
    exact h2
  · have := e4 x v e
    omega
/-- where a function is written -/
structure FnI (p N fd wr fb b Mb : Nat) (z : Int) (lo PB : Nat) (g : FnT) (vs : List Value) (F : List UInt8 → Option (Nat × Nat)) (w W : World) (s : LwS) : Prop where
  lb : LoB p N fd wr fb b Mb z W s
  bx : W.heap[PB]? = some (.cells vs.toArray 95 (0, 0))
  sh : ShF lo W g vs
  mf : FrmA W fb F
  lk : LoK true (some Mb) N w W
  ne : Mb ≠ fb
theorem FrmA.keep {w w' : World} {B : Nat} {M : List UInt8 → Option (Nat × Nat)} (h : FrmA w B M) (e : w'.heap[B]? = w.heap[B]?) : FrmA w' B M := MapT.block h e
theorem ShF.lok {lo N : Nat} {b : Bool} {X : Option Nat} {w w' : World} {g : FnT} {vs : List Value} (h : ShF lo w g vs) (e : LoK b X N w w') (hX : ∀ x, X = some x → ∀ cs t f, w.heap[x]? ≠ some (.cells cs t f)) : ShF lo w' g vs :=
  h.keep (Nat.le_refl _) fun x cs f t _ hx ht => e.keep x _ hx (by rcases ht with rfl | rfl <;> cases b <;> rfl) (fun er => hX x er _ _ _ hx)
theorem FnI.step {p N fd wr fb b Mb : Nat} {z z' : Int} {lo PB : Nat} {g : FnT} {vs : List Value} {F : List UInt8 → Option (Nat × Nat)} {w W W' : World} {s s' : LwS} (h : FnI p N fd wr fb b Mb z lo PB g vs F w W s) (hb : LoB p N fd wr fb b Mb z' W' s') (k : LoK true (some Mb) N W W') : FnI p N fd wr fb b Mb z' lo PB g vs F w W' s' := by
  obtain ⟨es, cl, hm, _⟩ := h.mf
  exact ⟨hb, (k.keep PB _ h.bx rfl (fun er => h.lb.noX PB er _ _ _ h.bx)).trans h.bx, h.sh.lok k h.lb.noX, h.mf.keep (k.keep fb _ hm rfl (fun er => h.ne (by injection er))), h.lk.trans k, h.ne⟩
theorem FnI.drew {p N fd wr fb b Mb : Nat} {z : Int} {lo PB : Nat} {g : FnT} {vs : List Value} {F : List UInt8 → Option (Nat × Nat)} {w W : World} {s : LwS} (h : FnI p N fd wr fb b Mb z lo PB g vs F w W s) : FnI p N fd wr fb b Mb z lo PB g vs F w W.drew s :=
  h.step (h.lb.below (below_drewN (Below.refl _ _) 1)) (LoK.below (below_drewN (Below.refl _ _) 1) h.lb.nle)
/-- zero's cell is told -/
theorem LoB.setZ {p N fd wr fb b Mb : Nat} {z : Int} {w : World} {s : LwS} (h : LoB p N fd wr fb b Mb z w s) (z' : Int) : LoB p N fd wr fb b Mb z' (w.setCell ⟨b, 2, none⟩ (.int .i64 z')) s ∧ LoK true (some Mb) N w (w.setCell ⟨b, 2, none⟩ (.int .i64 z')) := by
  have hgb := gb_one w b 2 (.int .i64 z')
  have ho : ∀ j, j ≠ b → (w.setCell ⟨b, 2, none⟩ (.int .i64 z')).heap[j]? = w.heap[j]? := fun j hj => Below.heap_setCell _ _ _ _ hj
  have hne : ∀ {g : Nat} {cs : Array Value} {t : TypeId} {f : Nat × Nat}, w.heap[g]? = some (.cells cs t f) → t ≠ 117 → g ≠ b := fun hb ht e => by
    subst e
    rw [h.body] at hb
    injection hb with hb
    injection hb with _ hb _
    exact ht hb.symm
  obtain ⟨fcs, ff, hf1, hf2⟩ := h.wr'.fld
  obtain ⟨lv, cv, h3, h4, h5⟩ := h.wr'.str
  obtain ⟨es, cl, hm, hr⟩ := h.map
  have hMb : Mb ≠ b := fun e => by subst e; rw [h.body] at hm; cases hm
  refine ⟨⟨⟨⟨fcs, ff, (ho fd (hne hf1 (by decide))).trans hf1, hf2⟩, ⟨lv, cv, (ho wr (hne h3 (by decide))).trans h3, h4.kept hgb (own_ne h4 h.body (by decide)), h5.kept hgb (own_ne h5 h.body (by decide))⟩, h.wr'.hN⟩, heap_setCell_same w b 2 _ _ _ h.body, h.map.block (ho Mb hMb), h.hb, h.hM⟩, LoK.set h.body (by simp [loT]) h.hb _⟩
/-- a list's value, as a slice -/
theorem LoW.slice {p N fd wr fb : Nat} {w : World} {s : LwS} (h : LoW p N fd wr fb w s) : ∃ a c, w.cell? ⟨wr, 1, none⟩ = some (.slice a s.L.length c) := by
  obtain ⟨lv, cv, h3, h4, h5⟩ := h.str
  rcases h4.2 with ⟨h0, hx⟩ | ⟨gg, cap, cur, hsl, _⟩
  · refine ⟨none, 0, ?_⟩
    rw [hx]
    simp [World.cell?, h3, h0]
  · exact ⟨some ⟨gg, 0, none⟩, cap, by simp [World.cell?, h3, hsl]⟩

end Go.Proofs.YtmmgkdcojkmlcaaGreatDoor

namespace Go.Proofs.YtmmgkdcojkmlcaaGreatDoor
open Go.RowKit

theorem FnI.all {p N fd wq fb b Mb : Nat} {z : Int} {lo PB K n : Nat} {g : FnT} {sk : Int} {ss : ByteArray} {sm : Int} {sa : Option Addr} {sl sc : Nat} {F : List UInt8 → Option (Nat × Nat)} {w W : World} {s : LwS} (h : FnI p N fd wq fb b Mb z lo PB g [.string (bs g.name), .slice (some ⟨K, 0, none⟩) n n, .int .i64 sk, .string ss, .int .i64 sm, .slice sa sl sc] F w W s) : (W.cell? ⟨b, 0, none⟩ = some (.pointer (some ⟨wq, 0, none⟩)) ∧ W.cell? ⟨b, 1, none⟩ = some (.map (some Mb)) ∧ W.cell? ⟨b, 2, none⟩ = some (.int .i64 z)) ∧ W.cell? ⟨wq, 3, none⟩ = some (.map (some fb)) ∧ W.cell? ⟨PB, 0, none⟩ = some (.string (bs g.name)) ∧ W.cell? ⟨PB, 2, none⟩ = some (.int .i64 sk) ∧ W.cell? ⟨PB, 3, none⟩ = some (.string ss) ∧ W.cell? ⟨PB, 4, none⟩ = some (.int .i64 sm) ∧ W.cell? ⟨PB, 5, none⟩ = some (.slice sa sl sc) := by
  obtain ⟨lv, cv, h3, _⟩ := h.lb.wr'.str
  obtain ⟨h0, h1, h2, _⟩ := h.lb.cells4
  exact ⟨⟨h0, h1, h2⟩, by simp [World.cell?, h3], by simp [World.cell?, h.bx], by simp [World.cell?, h.bx], by simp [World.cell?, h.bx], by simp [World.cell?, h.bx], by simp [World.cell?, h.bx]⟩
theorem FnI.allF {p N fd wq fb b Mb : Nat} {z : Int} {lo PB K n : Nat} {g : FnT} {sk : Int} {ss : ByteArray} {sm : Int} {sa : Option Addr} {sl sc : Nat} {F : List UInt8 → Option (Nat × Nat)} {w W0 W : World} {s : LwS} (h : FnI p N fd wq fb b Mb z lo PB g [.string (bs g.name), .slice (some ⟨K, 0, none⟩) n n, .int .i64 sk, .string ss, .int .i64 sm, .slice sa sl sc] F w W0 s) (hg : W0.grownBy W (some fb)) : ((W.cell? ⟨b, 0, none⟩ = some (.pointer (some ⟨wq, 0, none⟩)) ∧ W.cell? ⟨b, 1, none⟩ = some (.map (some Mb)) ∧ W.cell? ⟨b, 2, none⟩ = some (.int .i64 z)) ∧ W.cell? ⟨wq, 3, none⟩ = some (.map (some fb)) ∧ W.cell? ⟨PB, 0, none⟩ = some (.string (bs g.name)) ∧ W.cell? ⟨PB, 2, none⟩ = some (.int .i64 sk) ∧ W.cell? ⟨PB, 3, none⟩ = some (.string ss) ∧ W.cell? ⟨PB, 4, none⟩ = some (.int .i64 sm) ∧ W.cell? ⟨PB, 5, none⟩ = some (.slice sa sl sc)) ∧ W.cell? ⟨b, 3, none⟩ = some (.int .i64 (s.cells : Int)) := by
  obtain ⟨es, cl, hmo, _⟩ := h.mf
  have ho : ∀ {g : Nat} {cs : Array Value} {t : TypeId} {f : Nat × Nat}, W0.heap[g]? = some (.cells cs t f) → W.heap[g]? = some (.cells cs t f) := @fun g cs t f hgc => (hg.block g (Array.getElem?_eq_some_iff.1 hgc).1 (fun e => by
    injection e with e
    subst e
    rw [hmo] at hgc
    cases hgc)).trans hgc
  obtain ⟨lv, cv, h3, _⟩ := h.lb.wr'.str
  have h1 := ho h3
  have h2 := ho h.bx
  have h4 := ho h.lb.body
  exact ⟨⟨⟨by simp [World.cell?, h4], by simp [World.cell?, h4], by simp [World.cell?, h4]⟩, by simp [World.cell?, h1], by simp [World.cell?, h2], by simp [World.cell?, h2], by simp [World.cell?, h2], by simp [World.cell?, h2], by simp [World.cell?, h2]⟩, by simp [World.cell?, h4]⟩
theorem FnI.body {p N fd wq fb b Mb : Nat} {z : Int} {lo PB K n : Nat} {g : FnT} {sk : Int} {ss : ByteArray} {sm : Int} {sa : Option Addr} {sl sc : Nat} {F : List UInt8 → Option (Nat × Nat)} {w W : World} {s : LwS} (h : FnI p N fd wq fb b Mb z lo PB g [.string (bs g.name), .slice (some ⟨K, 0, none⟩) n n, .int .i64 sk, .string ss, .int .i64 sm, .slice sa sl sc] F w W s) : ShP lo W g.body [.int .i64 sk, .string ss, .int .i64 sm, .slice sa sl sc] := by
  obtain ⟨K', v0, v1, v2, v3, e, _, _, hb⟩ := h.sh
  simp only [List.cons.injEq, and_true] at e
  obtain ⟨_, _, rfl, rfl, rfl, rfl⟩ := e
  exact hb
theorem rowS_lok {W W' : World} {K n N : Nat} {V : Nat → Value} {bb : Bool} {X : Option Nat} (h : W.rowIs K 9 n V) (e : LoK bb X N W W') (hX : ∀ x, X = some x → ∀ cs t f, W.heap[x]? ≠ some (.cells cs t f)) : W'.rowIs K 9 n V := by
  obtain ⟨cs, h1, h2⟩ := h
  exact ⟨cs, (e.keep K _ h1 (by cases bb <;> rfl) (fun er => hX K er _ _ _ h1)).trans h1, h2⟩
/-- the frames turned -/
theorem LoW.setF {p N fd wq fb : Nat} {w w' : World} {s : LwS} {F : List UInt8 → Option (Nat × Nat)} (h : LoW p N fd wq fb w s) (hf : FrmA w fb F) (hg : w.grownBy w' (some fb)) : LoW p N fd wq fb w' s := by
  obtain ⟨es, cl, hmo, _⟩ := hf
  have ho : ∀ {g : Nat} {cs : Array Value} {t : TypeId} {f : Nat × Nat}, w.heap[g]? = some (.cells cs t f) → w'.heap[g]? = w.heap[g]? := @fun g cs t f hgc => hg.block g (Array.getElem?_eq_some_iff.1 hgc).1 (fun e => by
    injection e with e
    subst e
    rw [hmo] at hgc
    cases hgc)
  have hne : ∀ {e : TypeId} {k : Nat} {v : Value} {n : Nat} {xs : List Value}, w.ownsRow N e k v n xs → v.ownBlock = none ∨ v.ownBlock ≠ some fb := @fun e k v n xs hr => by
    cases hv : v.ownBlock with
    | none => exact Or.inl rfl
    | some g =>
      obtain ⟨_, cs, f, hc⟩ := own_obj hr g hv
      exact Or.inr (fun e => by injection e with e; subst e; rw [hmo] at hc; cases hc)
  obtain ⟨fcs, ff, hf1, hf2⟩ := h.fld
  obtain ⟨lv, cv, h3, h4, h5⟩ := h.str
  exact ⟨⟨fcs, ff, (ho hf1).trans hf1, hf2⟩, ⟨lv, cv, (ho h3).trans h3, h4.kept hg (hne h4), h5.kept hg (hne h5)⟩, h.hN⟩

set_option maxRecDepth 100000 in
set_option maxHeartbeats 8000000 in
theorem function_writ (p N fd wq fb : Nat) (hp3 : 3 ≤ p) (hpm : p ≤ 2147483647) (g : FnT) (s : LwS) (w : World) (lo : Nat) (vs : List Value) (F : List UInt8 → Option (Nat × Nat)) (h : LoW p N fd wq fb w s) (hf : FrmA w fb F) (hNf : N ≤ fb) (hS : ShF lo w g vs) (hG : FW g) (hr1 : s.L.length + 3 * tsz g.body + 5000 ≤ 1000000) (hr2 : s.cl.length + tsz g.body ≤ 1000000) :
    Calls Tryz.prog 27 #[.pointer (some ⟨wq, 0, none⟩), .agg vs.toArray] w fun e w' => (∃ v, e = .returned v) ∧ LoW p N fd wq fb w' (fnP p g s) ∧ FrmA w' fb (updT F g.name (s.L.length, (fnP p g s).cells)) ∧ LoK true (some fb) N w w' := by
  have hmm := @run_makeMap Tryz.prog
  have hmx : Tryz.prog.follows .mixedOrders = true := by kernel_rfl
  have hS0 := hS
  obtain ⟨K, v0, v1, v2, v3, rfl, hrow, _, hsp⟩ := hS
  obtain ⟨sk, ss, sm, sa, sl, sc, ef⟩ := hsp.form
  injection ef with e0 ef
  injection ef with e1 ef
  injection ef with e2 ef
  injection ef with e3 ef
  subst e0 e1 e2 e3
  obtain ⟨n, hn⟩ : ∃ n, n = g.more.length := ⟨_, rfl⟩
  have hm4 : g.more.length ≤ 4000 := hG.2.2.1
  obtain ⟨hrm, hl2⟩ := fn2_room p g s hr1 hr2 hm4
  have hn4 : n ≤ 4000 := by omega
  obtain ⟨PB, hPB⟩ : ∃ P, P = w.heap.size := ⟨_, rfl⟩
  obtain ⟨Mb, hMb⟩ : ∃ M, M = w.heap.size + 1 := ⟨_, rfl⟩
  obtain ⟨b, hbb⟩ : ∃ b, b = w.heap.size + 1 + 1 := ⟨_, rfl⟩
  rw [← hn] at hS0 hrow ⊢
  obtain ⟨W1, hW1⟩ : ∃ W, W = w.alloc (.cells #[.string (bs g.name), .slice (some ⟨K, 0, none⟩) n n, .int .i64 sk, .string ss, .int .i64 sm, .slice sa sl sc] 95) := ⟨_, rfl⟩
  obtain ⟨W2, hW2⟩ : ∃ W, W = W1.alloc (.map #[] 0) := ⟨_, rfl⟩
  obtain ⟨W3, hW3⟩ : ∃ W, W = W2.alloc (.cells #[.pointer (some ⟨wq, 0, none⟩), .map (some Mb), .int .i64 0, .int .i64 0] 117) := ⟨_, rfl⟩
  have s1 : W1.heap.size = w.heap.size + 1 := by rw [hW1]; simp
  have s2 : W2.heap.size = w.heap.size + 1 + 1 := by rw [hW2]; simp [s1]
  have b1 : Below w.heap.size w W1 := by rw [hW1]; exact (Below.refl _ _).alloc (Nat.le_refl _) _
  have b2 : Below W1.heap.size W1 W2 := by rw [hW2]; exact (Below.refl _ _).alloc (Nat.le_refl _) _
  have b3 : Below W2.heap.size W2 W3 := by rw [hW3]; exact (Below.refl _ _).alloc (Nat.le_refl _) _
  have b12 := b1.trans (b2.mono b1.size)
  have b13 := b12.trans (b3.mono b12.size)
  have hNw : N ≤ w.heap.size := Nat.le_of_lt (Nat.lt_of_le_of_lt h.hN h.lt)
  have hfl : fb < w.heap.size := MapT.lt hf
  have HI0 : Hid (FnI p N fd wq fb b Mb 0 lo PB g [.string (bs g.name), .slice (some ⟨K, 0, none⟩) n n, .int .i64 sk, .string ss, .int .i64 sm, .slice sa sl sc] F w W3 (nmN g.more (fn0 s) 0)) := by
    have p1 : W1.heap[PB]? = some (.cells #[.string (bs g.name), .slice (some ⟨K, 0, none⟩) n n, .int .i64 sk, .string ss, .int .i64 sm, .slice sa sl sc] 95 (0, 0)) := by rw [hW1, hPB]; exact heap_alloc_new w _
    have m1 : MapI nmk (fun x => x.length ≤ 4000) W2 Mb (fun _ => none) := by rw [hW2, hMb, ← s1]; exact MapI.new W1
    have c1 : W3.heap[b]? = some (.cells #[.pointer (some ⟨wq, 0, none⟩), .map (some Mb), .int .i64 0, .int .i64 0] 117 (0, 0)) := by rw [hW3, hbb, ← s2]; exact heap_alloc_new W2 _
    exact ⟨⟨(LoW.below h b13).cells rfl rfl, c1, m1.below b3, by omega, by omega⟩, (b3.block PB (by omega)).trans ((b2.block PB (by omega)).trans p1), hS0.below b13, hf.keep (b13.block fb hfl), LoK.below b13 hNw, by omega⟩
  have HW3 := hid (hW3.trans (by rw [hW2, hW1, hMb] : _ = ((w.alloc (.cells #[.string (bs g.name), .slice (some ⟨K, 0, none⟩) n n, .int .i64 sk, .string ss, .int .i64 sm, .slice sa sl sc] 95)).alloc (.map #[] 0)).alloc (.cells #[.pointer (some ⟨wq, 0, none⟩), .map (some (w.heap.size + 1)), .int .i64 0, .int .i64 0] 117)))
  have HPB := hid hPB
  have HMB := hid hMb
  have HBB := hid hbb
  have HP : Hid (3 ≤ p ∧ p ≤ 2147483647) := ⟨hp3, hpm⟩
  have HG := hid hG
  have HRM := hid hrm
  have HRW : Hid (W3.rowIs K 9 n (nmS g.more n)) := World.rowIs.of_block hrow (b13.block K (World.rowIs.lt hrow))
  have HN := hid hn
  have HL2 := hid hl2
  have HR : Hid (s.L.length + 3 * tsz g.body + 5000 ≤ 1000000) := hr1
  have HNF : Hid (N ≤ fb ∧ fb < w.heap.size ∧ w.heap.size ≤ Mb ∧ N ≤ w.heap.size) := ⟨hNf, hfl, by omega, hNw⟩
  have HFI := hid (fun i => nmN_is g.more (fn0 s) ⟨rfl, rfl⟩ i)
  obtain ⟨la, lc, hlv⟩ := HI0.out.lb.wr'.slice
  obtain ⟨sn, hsn⟩ : ∃ sn, sn = s.L.length := ⟨_, rfl⟩
  rw [show (nmN g.more (fn0 s) 0).L.length = sn by rw [hsn]; rfl] at hlv
  have hq1 : W3.cell? ⟨PB, 1, none⟩ = some (.slice (some ⟨K, 0, none⟩) n n) := by simp [World.cell?, HI0.out.bx]
  have HSN := hid hsn
  rw [← hsn]
  clear h hf hNf hS0 hG hr1 hr2 hrow hsp ef hn hm4 hrm hl2 hPB hMb hbb hW1 hW2 hW3 s1 s2 b1 b2 b3 b12 b13 hNw hfl hsn hp3 hpm
  go_enter Tryz.func27, Tryz.ntmps27
  go_wp2_with (rw [← HW3.out, ← HBB.out, ← HMB.out, ← HPB.out])
  go_loopw [20] (fun iv wr => ∃ (i : Nat), i ≤ n ∧ iv = .int .i64 (i : Int) ∧ Hid (FnI p N fd wq fb b Mb 0 lo PB g [.string (bs g.name), .slice (some ⟨K, 0, none⟩) n n, .int .i64 sk, .string ss, .int .i64 sm, .slice sa sl sc] F w wr (nmN g.more (fn0 s) i)) ∧ Hid (wr.rowIs K 9 n (nmS g.more n))) (fun iv _ => n - (intOf iv).toNat)
  case atStart => exact ⟨0, Nat.zero_le _, rfl, HI0, HRW⟩
  case round =>
    obtain ⟨i, hin, rfl, HI, HRi⟩ := hrel
    clear HI0 HRW hq1 hlv
    by_cases hlt : i < n
    · have hlt2 : (i : Int) < (n : Int) := by omega
      have hks : IntKind.i64.wrap ((i : Int) + 1) = (i : Int) + 1 := by rw [IntKind.wrap_i64]; omega
      have r1 : wr.cell? ⟨K, i, none⟩ = some (.string (bs (nmAt g.more i))) := by
        have h := HRi.out.cell (i := i) hlt
        unfold nmS at h
        rw [if_pos hlt] at h
        exact h
      have HNL : Hid ((nmAt g.more i).length ≤ 4000) := by
        unfold Hid nmAt
        split
        · next x hx => have := (HG.out.2.1 x (List.mem_of_getElem? hx)).2.1; omega
        · simp
      have HC := hid (cell_any p N fd wq fb b Mb 0 (nmN g.more (fn0 s) i) wr.drew HI.out.drew.lb (by have := (HFI.out i).2.2.1; omega))
      obtain ⟨nm, hnm⟩ : ∃ x, x = nmAt g.more i := ⟨_, rfl⟩
      rw [← hnm] at r1 HNL
      obtain ⟨cn, hcn⟩ : ∃ c : Int, c = ((nmN g.more (fn0 s) i).cells : Int) := ⟨_, rfl⟩
      rw [← hcn] at HC
      have HEN : Hid ((nmN g.more (fn0 s) i).cell.sM (updL (nmN g.more (fn0 s) i).cell.M nm cn) = nmN g.more (fn0 s) (i + 1)) := by unfold Hid; rw [hnm, hcn]; rfl
      clear hnm hcn
      go_wp2_with fail
      refine wp_region_held_drew (S := fun W => (W.cell? ⟨b, 0, none⟩ = some (.pointer (some ⟨wq, 0, none⟩)) ∧ W.cell? ⟨b, 1, none⟩ = some (.map (some Mb)) ∧ W.cell? ⟨b, 2, none⟩ = some (.int .i64 0)) ∧ W.cell? ⟨wq, 3, none⟩ = some (.map (some fb)) ∧ W.cell? ⟨PB, 0, none⟩ = some (.string (bs g.name)) ∧ W.cell? ⟨PB, 2, none⟩ = some (.int .i64 sk) ∧ W.cell? ⟨PB, 3, none⟩ = some (.string ss) ∧ W.cell? ⟨PB, 4, none⟩ = some (.int .i64 sm) ∧ W.cell? ⟨PB, 5, none⟩ = some (.slice sa sl sc)) hmx (HI.out.drew.all) (fun hHeld => ?_)
      refine tkA 0 (.pointer (some ⟨b, 0, none⟩)) ?_
      simp only [putX]
      refine tkA 1 (.pointer (some ⟨b, 0, none⟩)) ?_
      simp only [putX]
      refine tkA 2 (.pointer (some ⟨b, 1, none⟩)) ?_
      simp only [putX]
      refine tkA 3 (.map (some Mb)) ?_
      simp only [putX]
      refine tkA 4 (.string (bs nm)) ?_
      simp only [putX]
      refine tkA 5 (.pointer (some ⟨b, 0, none⟩)) ?_
      simp only [putX]
      refine rdA 6 fun K' hK' => ?_
      go_simp
      refine (HC.out).mono ?_
      rintro e w1 ⟨rfl, hb1, hk1⟩
      have HI1 := hid (HI.out.drew.step hb1 hk1)
      obtain ⟨w2, hrun, hmp, hgr⟩ := MapI.update namK HI1.out.lb.map HNL.out cn
      have hrun2 : (Instr.mapUpdate 66 (.map (some Mb)) (.string (bs nm)) (.int .i64 cn)).run Tryz.prog w1 = .ok () w2 := hrun
      obtain ⟨hlb2, hlk2⟩ := HI1.out.lb.setM hmp hgr
      refine hK'.out _ _ (HI1.out.all) (fun hHeld => ?_)
      clear hK' K'
      refine rdA 7 fun K' hK' => ?_
      have HI2 := hid (HI1.out.step (s' := nmN g.more (fn0 s) (i + 1)) (by rw [← HEN.out]; exact hlb2) hlk2)
      have HR2 := hid (rowS_lok (rowS_lok (rowS_lok HRi.out (LoK.below (N := N) (b := true) (X := some Mb) (below_drewN (Below.refl _ wr) 1) HI.out.lb.nle) HI.out.lb.noX) hk1 HI.out.drew.lb.noX) hlk2 HI1.out.lb.noX)
      go_simp
      refine hK'.out _ _ (HI2.out.all) (fun hHeld => ?_)
      clear hK' K'
      refine wpAnyH_done (by kernel_rfl) ?_ _
      go_wp2_with fail
      go_roundw
      case rel => exact ⟨i + 1, by omega, by go_num, HI2, HR2⟩
      case measure => simp [intOf]; omega
    · obtain rfl : i = n := by omega
      have hlt2 : ¬ (i : Int) < (i : Int) := by omega
      have HN1 : Hid (nmN g.more (fn0 s) i = fn1 g s) := by unfold Hid fn1; rw [← HN.out]
      rw [HN1.out] at HI
      have HC : Hid (Calls Tryz.prog 48 #[.pointer (some ⟨b, 0, none⟩)] wr fun e w' => e = .returned (.int .i64 (i : Int)) ∧ LoB p N fd wq fb b Mb 0 w' (fn1 g s).cell ∧ LoK true (some Mb) N wr w') := by
        have h := (HFI.out i).2.2.1
        rw [HN1.out] at h
        have hc := cell_any p N fd wq fb b Mb 0 (fn1 g s) wr HI.out.lb (by omega)
        rw [h] at hc
        exact hc
      have HE2 : Hid ((fn1 g s).cell.wr p 5 (i : Int) 0 0 = fn2 p g s) := by unfold Hid fn2; rw [HN.out]
      have HEV : Hid ((kfO p (i : Int) g.body).v (fn2 p g s) = fnV p g s) := by unfold Hid fnV; rw [HN.out]
      have HWX : Hid (∀ W, LoW p N fd wq fb W (fn1 g s).cell → Calls Tryz.prog 44 #[.pointer (some ⟨wq, 0, none⟩), .int .i64 5, .int .i64 (i : Int), .int .i64 0, .int .i64 0] W fun e w' => (∃ v, e = .returned v) ∧ LoW p N fd wq fb w' (fn2 p g s) ∧ LoK false none N W w') := fun W h => by
        have hl : (fn1 g s).cell.L.length + 1 ≤ 1000000 := by
          have e := (HFI.out i).1
          rw [HN1.out] at e
          show (fn1 g s).L.length + 1 ≤ 1000000
          rw [e]
          have := HR.out
          show s.L.length + 1 ≤ 1000000
          omega
        have := write_any p N fd wq fb 5 (i : Int) 0 0 _ W HP.out.1 HP.out.2 h hl (i64_of (by omega)) (i64_of (by omega)) (i64_of (by omega))
        rw [HE2.out] at this
        exact this
      have HVX : Hid (∀ W vs, LoB p N fd wq fb b Mb (i : Int) W (fn2 p g s) → ShP lo W g.body vs → Calls Tryz.prog 49 #[.pointer (some ⟨b, 0, none⟩), .agg vs.toArray] W fun e w' => e = .returned (.int .i64 (fnV p g s).1) ∧ LoB p N fd wq fb b Mb (i : Int) w' (fnV p g s).2 ∧ LoK true (some Mb) N W w') := fun W vs h1 h2 => by
        rw [← HEV.out]
        exact value_any p N fd wq fb b Mb (i : Int) HP.out.1 HP.out.2 (by omega) g.body HG.out.2.2.2 (fn2 p g s) W lo vs h1 h2 HRM.out
      have hvb : 0 ≤ (fnV p g s).1 ∧ (fnV p g s).1 ≤ 1000000 := by
        rw [← HEV.out]
        exact RmL.vb (n := 0) HRM.out
      have hvl : (fnV p g s).2.L.length ≤ (fn2 p g s).L.length + 3 * tsz g.body := by
        rw [← HEV.out]
        have := (LeL.v (q := kfO p (i : Int) g.body) (fun to s => tlP_le p (i : Int) g.body to s) (fn2 p g s)).l1
        omega
      have HWB : Hid (∀ W, LoW p N fd wq fb W (fnV p g s).2 → Calls Tryz.prog 44 #[.pointer (some ⟨wq, 0, none⟩), .int .i64 11, .int .i64 (fnV p g s).1, .int .i64 0, .int .i64 0] W fun e w' => (∃ v, e = .returned v) ∧ LoW p N fd wq fb w' (fnP p g s) ∧ LoK false none N W w') := fun W h =>
        write_any p N fd wq fb 11 (fnV p g s).1 0 0 _ W HP.out.1 HP.out.2 h (by have := HR.out; have := HL2.out; omega) (i64_of hvb) (i64_of (by omega)) (i64_of (by omega))
      obtain ⟨wo, hwo⟩ : ∃ wo, wo = wr := ⟨_, rfl⟩
      rw [← hwo] at HI HRi HC ⊢
      clear hwo hvb hvl
      go_wp2_with fail
      refine HC.out.mono ?_
      rintro e w1 ⟨rfl, hb1, hk1⟩
      have HI1 := hid (HI.out.step hb1 hk1)
      have y1 : w1.frozen? ⟨b, 2, none⟩ = false := by simp [World.frozen?, HI1.out.lb.body]
      have y2 : w1.cell? ⟨b, 2, none⟩ = some (.int .i64 0) := HI1.out.lb.cells4.2.2.1
      obtain ⟨W2, hW2⟩ : ∃ W, W = w1.setCell ⟨b, 2, none⟩ (.int .i64 (i : Int)) := ⟨_, rfl⟩
      obtain ⟨hz1, hz2⟩ := HI1.out.lb.setZ (i : Int)
      rw [← hW2] at hz1 hz2
      have HI2 := hid (HI1.out.step hz1 hz2)
      have HW2 := hid hW2
      have HWY := hid (HWX.out W2.drew HI2.out.drew.lb.wr')
      clear hb1 hk1 hz1 hz2 hW2
      go_wp2_with (rw [← HW2.out])
      refine wp_region_held_drew (S := fun W => (W.cell? ⟨b, 0, none⟩ = some (.pointer (some ⟨wq, 0, none⟩)) ∧ W.cell? ⟨b, 1, none⟩ = some (.map (some Mb)) ∧ W.cell? ⟨b, 2, none⟩ = some (.int .i64 (i : Int))) ∧ W.cell? ⟨wq, 3, none⟩ = some (.map (some fb)) ∧ W.cell? ⟨PB, 0, none⟩ = some (.string (bs g.name)) ∧ W.cell? ⟨PB, 2, none⟩ = some (.int .i64 sk) ∧ W.cell? ⟨PB, 3, none⟩ = some (.string ss) ∧ W.cell? ⟨PB, 4, none⟩ = some (.int .i64 sm) ∧ W.cell? ⟨PB, 5, none⟩ = some (.slice sa sl sc)) hmx (HI2.out.drew.all) (fun hHeld => ?_)
      refine tkA 0 (.pointer (some ⟨b, 0, none⟩)) ?_
      simp only [putX]
      refine tkA 1 (.pointer (some ⟨b, 0, none⟩)) ?_
      simp only [putX]
      refine tkA 2 (.pointer (some ⟨b, 0, none⟩)) ?_
      simp only [putX]
      refine tkA 3 (.pointer (some ⟨wq, 0, none⟩)) ?_
      simp only [putX]
      refine tkA 4 (.pointer (some ⟨b, 0, none⟩)) ?_
      simp only [putX]
      refine tkA 5 (.pointer (some ⟨b, 0, none⟩)) ?_
      simp only [putX]
      refine tkA 6 (.pointer (some ⟨b, 2, none⟩)) ?_
      simp only [putX]
      refine tkA 7 (.int .i64 (i : Int)) ?_
      simp only [putX]
      refine rdA 8 fun K' hK' => ?_
      go_simp
      refine (HWY.out).mono ?_
      rintro e w3 ⟨⟨v, rfl⟩, hl3, hk3⟩
      have HI3 := hid (HI2.out.drew.step (HI2.out.drew.lb.step (s' := fn2 p g s) hl3 hk3 rfl rfl) hk3.wide)
      refine hK'.out _ _ (HI3.out.all) (fun hHeld => ?_)
      clear hK' K'
      refine wpAnyH_done (by kernel_rfl) ?_ _
      clear hl3 hk3 HWY y1 y2
      have HV3 := hid (HVX.out w3.drew _ HI3.out.drew.lb HI3.out.drew.body)
      obtain ⟨fv, hfv⟩ : ∃ fv, fv = (fnV p g s).1 := ⟨_, rfl⟩
      rw [← hfv] at HV3 HWB
      clear hfv
      go_wp2_with fail
      refine wp_region_held_drew (S := fun W => (W.cell? ⟨b, 0, none⟩ = some (.pointer (some ⟨wq, 0, none⟩)) ∧ W.cell? ⟨b, 1, none⟩ = some (.map (some Mb)) ∧ W.cell? ⟨b, 2, none⟩ = some (.int .i64 (i : Int))) ∧ W.cell? ⟨wq, 3, none⟩ = some (.map (some fb)) ∧ W.cell? ⟨PB, 0, none⟩ = some (.string (bs g.name)) ∧ W.cell? ⟨PB, 2, none⟩ = some (.int .i64 sk) ∧ W.cell? ⟨PB, 3, none⟩ = some (.string ss) ∧ W.cell? ⟨PB, 4, none⟩ = some (.int .i64 sm) ∧ W.cell? ⟨PB, 5, none⟩ = some (.slice sa sl sc)) hmx (HI3.out.drew.all) (fun hHeld => ?_)
      refine tkA 0 (.pointer (some ⟨b, 0, none⟩)) ?_
      simp only [putX]
      refine tkA 1 (.pointer (some ⟨b, 0, none⟩)) ?_
      simp only [putX]
      refine tkA 2 (.pointer (some ⟨b, 0, none⟩)) ?_
      simp only [putX]
      refine tkA 3 (.pointer (some ⟨wq, 0, none⟩)) ?_
      simp only [putX]
      refine tkA 4 (.pointer (some ⟨b, 0, none⟩)) ?_
      simp only [putX]
      refine tkA 5 (.pointer (some ⟨PB, 2, none⟩)) ?_
      simp only [putX]
      refine tkA 6 (.agg #[.int .i64 sk, .string ss, .int .i64 sm, .slice sa sl sc]) ?_
      simp only [putX]
      refine rdA 7 fun K' hK' => ?_
      go_simp
      refine (HV3.out).mono ?_
      rintro e w4 ⟨rfl, hb4, hk4⟩
      have HI4 := hid (HI3.out.drew.step hb4 hk4)
      have HW4 := hid (HWB.out w4 HI4.out.lb.wr')
      refine hK'.out _ _ (HI4.out.all) (fun hHeld => ?_)
      clear hK' K'
      refine rdA 8 fun K' hK' => ?_
      go_simp
      refine (HW4.out).mono ?_
      rintro e w5 ⟨⟨v, rfl⟩, hl5, hk5⟩
      have HI5 := hid (HI4.out.step (HI4.out.lb.step (s' := fnP p g s) hl5 hk5 rfl rfl) hk5.wide)
      refine hK'.out _ _ (HI5.out.all) (fun hHeld => ?_)
      clear hK' K'
      refine wpAnyH_done (by kernel_rfl) ?_ _
      clear hb4 hk4 hl5 hk5
      have HI6 := hid HI5.out.drew
      obtain ⟨cn, hcn⟩ : ∃ c, c = (fnP p g s).cells := ⟨_, rfl⟩
      obtain ⟨w7, hrun, hmp, hgr⟩ := MapT.update frmK HI6.out.mf (show g.name.length ≤ 4000 by have := HG.out.1.2.1; omega) (sn, cn)
      have hrun2 : (Instr.mapUpdate 83 (.map (some fb)) (.string (bs g.name)) (.agg #[.int .i64 (sn : Int), .int .i64 (cn : Int)])).run Tryz.prog w5.drew = .ok () w7 := hrun
      have HCN := hid hcn
      have hcc := HI6.out.lb.cells4.2.2.2
      rw [← hcn] at hcc
      have HHC := hid hcc
      have ha7 := HI6.out.allF hgr
      rw [← hcn] at ha7
      have HA7 := hid ha7
      have HF7 := hid hmp
      have HGR := hid hgr
      clear ha7 hmp hgr hcn
      clear hrun hcc
      go_wp2_with fail
      refine wp_region_held_drew (S := fun W => ((W.cell? ⟨b, 0, none⟩ = some (.pointer (some ⟨wq, 0, none⟩)) ∧ W.cell? ⟨b, 1, none⟩ = some (.map (some Mb)) ∧ W.cell? ⟨b, 2, none⟩ = some (.int .i64 (i : Int))) ∧ W.cell? ⟨wq, 3, none⟩ = some (.map (some fb)) ∧ W.cell? ⟨PB, 0, none⟩ = some (.string (bs g.name)) ∧ W.cell? ⟨PB, 2, none⟩ = some (.int .i64 sk) ∧ W.cell? ⟨PB, 3, none⟩ = some (.string ss) ∧ W.cell? ⟨PB, 4, none⟩ = some (.int .i64 sm) ∧ W.cell? ⟨PB, 5, none⟩ = some (.slice sa sl sc)) ∧ W.cell? ⟨b, 3, none⟩ = some (.int .i64 (cn : Int))) hmx (⟨HI6.out.all, HHC.out⟩) (fun hHeld => ?_)
      refine tkA 0 (.pointer (some ⟨wq, 0, none⟩)) ?_
      simp only [putX]
      refine tkA 1 (.pointer (some ⟨wq, 0, none⟩)) ?_
      simp only [putX]
      refine tkA 2 (.pointer (some ⟨wq, 3, none⟩)) ?_
      simp only [putX]
      refine tkA 3 (.map (some fb)) ?_
      simp only [putX]
      refine tkA 4 (.pointer (some ⟨PB, 0, none⟩)) ?_
      simp only [putX]
      refine tkA 5 (.string (bs g.name)) ?_
      simp only [putX]
      refine tkA 6 (.int .i64 (sn : Int)) ?_
      simp only [putX]
      refine tkA 7 (.pointer (some ⟨b, 0, none⟩)) ?_
      simp only [putX]
      refine tkA 8 (.pointer (some ⟨b, 0, none⟩)) ?_
      simp only [putX]
      refine tkA 9 (.pointer (some ⟨b, 3, none⟩)) ?_
      simp only [putX]
      refine tkA 10 (.int .i64 (cn : Int)) ?_
      simp only [putX]
      refine tkA 11 (.agg #[.int .i64 (sn : Int), .int .i64 (cn : Int)]) ?_
      simp only [putX]
      refine rdA 12 fun K' hK' => ?_
      go_simp
      refine hK'.out _ _ (HA7.out) (fun hHeld => ?_)
      clear hK' K'
      refine wpAnyH_done (by kernel_rfl) ?_ _
      go_wp2_with fail
      go_end0
      refine ⟨⟨_, rfl⟩, HI6.out.lb.wr'.setF HI6.out.mf HGR.out, ?_, ?_, ?_⟩
      · rw [← HCN.out]
        exact HF7.out
      · have hk := HI6.out.lk.bel
        exact ⟨HGR.out.os.trans hk.os, HGR.out.tape.trans hk.tape, HGR.out.output.trans hk.output, Nat.le_trans hk.size HGR.out.size, fun k hkl => (HGR.out.block k (by have := HNF.out.2.2.2; have := hk.size; omega) (fun e => by injection e with e; have := HNF.out.1; omega)).trans (hk.block k hkl)⟩
      · intro k o hk ht hX
        have hkl := (Array.getElem?_eq_some_iff.1 hk).1
        have h1 := HI6.out.lk.keep k o hk ht (fun e => by injection e with e; have := HNF.out.2.2.1; omega)
        exact (HGR.out.block k (by have := HI6.out.lk.bel.size; omega) (fun e => hX e.symm)).trans h1

end Go.Proofs.YtmmgkdcojkmlcaaGreatDoor
