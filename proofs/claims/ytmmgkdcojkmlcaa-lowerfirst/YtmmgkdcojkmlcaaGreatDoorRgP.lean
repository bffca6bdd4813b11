/- The reference of programs as text: function. -/
import Derived.Test.YtmmgkdcojkmlcaaGreatDoorLFAU
namespace Go.Proofs.YtmmgkdcojkmlcaaGreatDoor
open Go.RowKit

theorem rg_append {o : Oper} {a : Act} {w w2 : World} {K : Act → World → Prop} {Q : Exit → Act → World → Prop} (s x : Operand) (tS tX : TypeId)
    (ho : o.op = .call { callee := .builtin .append, args := #[s, x], argTypes := #[tS, tX] }) (v u r : Value) (hs : a.eval s = v) (hx : a.eval x = u) (hrun : (Builtin.append_ #[tS, tX] o.type #[v, u]).run Tryz.prog w = .ok r w2)
    (h : K (a.put o.dst r) w2) : Oper.wp Tryz.prog o a w K Q := by
  unfold Oper.wp
  simp [execOp, ho, resolve, invoke, builtin, hs, hx, hrun, Result.andThen]
  exact h
/-- names in brackets, from behind the bracket on -/
def brk (L : List UInt8) (f a1 : Nat) : Res (List (List UInt8 × Nat)) := (if (tok L a1).kind = 11 then .ok [] a1 else (pName L a1).bind fun x a2 => pNames L f [x] a2).bind fun xs a3 => (pTake L 11 a3).bind fun _ a4 => .ok xs a4
/-- what is left of them, where a name is to stand -/
def brn (L : List UInt8) (g : Nat) (xs : List (List UInt8 × Nat)) (p : Nat) : Res (List (List UInt8 × Nat)) := ((pName L p).bind fun x j => pNames L g (xs ++ [x]) j).bind fun ys a3 => (pTake L 11 a3).bind fun _ a4 => .ok ys a4
/-- what stands in function's loop -/
structure FInv (R X f : Nat) (T nm : ByteArray) (A : Int) (w W : World) (q2 : Res (List (List UInt8 × Nat))) (b : Bool) (am : Option Addr) (n cm : Nat) (aw : Option Addr) (cw : Nat) (wr : World) : Prop where
  sw : W.heap.size ≤ wr.heap.size
  ex : ∃ rc : Res (List (List UInt8 × Nat)), RgFS R T w X wr rc nm A (.slice am n cm) (.slice aw n cw) (.pointer none) ∧
          (b = true → (∃ xs p, rc = .ok xs p ∧ RgRow W.heap.size wr (.slice am n cm) (.slice aw n cw) n xs ∧ n ≤ p ∧ p ≤ T.size ∧ ∃ g, g ≤ f ∧ q2 = brn (by' T) g xs p) ∨ (rc = q2 ∧ ∃ e a, q2 = .bad e a)) ∧
          (b = false → rc = q2 ∧ ∀ xs jj, q2 = .ok xs jj → RgRow W.heap.size wr (.slice am n cm) (.slice aw n cw) n xs)
theorem brn_bad {L : List UInt8} {g p : Nat} {xs : List (List UInt8 × Nat)} (h : (tok L p).kind = 0) : brn L g xs p = .bad 5 (tok L p).at' := by
  unfold brn
  rw [pName_not (by omega)]
  rfl
theorem brk_bad {L : List UInt8} {f p : Nat} (h : (tok L p).kind = 0) : brk L f p = .bad 5 (tok L p).at' := by
  unfold brk
  rw [if_neg (by omega), pName_not (by omega)]
  rfl
theorem pBrack_brk (L : List UInt8) (f a : Nat) : pBrack L f a = (pTake L 10 a).bind fun _ a1 => brk L f a1 := rfl
theorem brk_none {L : List UInt8} {f p : Nat} (h : (tok L p).kind = 11) : brk L f p = .ok [] (tok L p).nx := by
  unfold brk
  rw [if_pos h]
  show (pTake L 11 p).bind _ = _
  unfold pTake
  rw [if_pos h]
  rfl
/-- how function ends -/
def FnE (R : Nat) (T : ByteArray) (q : Res FnT) (w : World) (en : Ending) (w' : World) : Prop := ∃ X, en = .returned (.pointer (some ⟨X, 0, none⟩)) ∧ Fr R w w' ∧ RgW w' R T q 0 ∧ ∀ g j, q = .ok g j → RFn w.heap.size w' g X

set_option maxRecDepth 100000 in
set_option maxHeartbeats 4000000 in
theorem rfun_any (R : Nat) (T : ByteArray) (f a : Nat) (w : World) (hg : RgG w R T a 0) (q : Res FnT) (hq : q = pFun (by' T) f a) (hro : q ≠ .out) :
    Calls Tryz.prog 22 #[.pointer (some ⟨R, 0, none⟩)] w (FnE R T q w) := by
  have hmx : Tryz.prog.follows .mixedOrders = true := by kernel_rfl
  have hnot : ∀ (x : Bool) (w : World), (Op.unary .not (.bool x)).run Tryz.prog w = .ok (.bool (!x)) w := fun _ _ => rfl
  obtain ⟨iS, hi, hz0, hz1, hz2⟩ := info_parts (show (Tryz.prog.info? 9).map (fun i => (i.zero, i.size, i.bytes)) = some (some (.string ⟨#[]⟩), 1, 16) by kernel_rfl)
  have HIS := hid (And.intro hi (And.intro hz0 (And.intro hz1 hz2)))
  clear hi hz0 hz1 hz2
  obtain ⟨iI, hi, hz0, hz1, hz2⟩ := info_parts (show (Tryz.prog.info? 3).map (fun i => (i.zero, i.size, i.bytes)) = some (some (.int .i64 0), 1, 8) by kernel_rfl)
  have HII := hid (And.intro hi (And.intro hz0 (And.intro hz1 hz2)))
  clear hi hz0 hz1 hz2
  obtain ⟨qa, hqa⟩ : ∃ qa : Res Unit, qa = (Res.ok () a : Res Unit).wn (by' T) 4 := ⟨_, rfl⟩
  obtain ⟨qb, hqb⟩ : ∃ qb : Res (List UInt8 × Nat), qb = qa.bind fun _ j => pName (by' T) j := ⟨_, rfl⟩
  obtain ⟨qc, hqc⟩ : ∃ qc, qc = qb.wn (by' T) 10 := ⟨_, rfl⟩
  obtain ⟨q2, hq2⟩ : ∃ q2 : Res (List (List UInt8 × Nat)), q2 = qc.bind fun _ a1 => brk (by' T) f a1 := ⟨_, rfl⟩
  obtain ⟨qd, hqd⟩ : ∃ qd, qd = qc.cr (brk (by' T) f) := ⟨_, rfl⟩
  obtain ⟨qe, hqe⟩ : ∃ qe, qe = qd.wn (by' T) 14 := ⟨_, rfl⟩
  obtain ⟨qf, hqf⟩ : ∃ qf, qf = qe.cr (fun a => pExpr (by' T) f a 0) := ⟨_, rfl⟩
  have hqq : q = qf.bind fun z j => .ok ⟨z.1.1.1, z.1.1.2, z.1.2, z.2⟩ j := by
    rw [hq, hqf, hqe, hqd, hqc, hqb, hqa]
    unfold pFun
    simp only [pBrack_brk]
    show _ = (((((((pTake (by' T) 4 a).bind fun _ a => Res.ok () a).bind fun _ j => pName (by' T) j).wn (by' T) 10).cr (brk (by' T) f)).wn (by' T) 14).cr (fun a => pExpr (by' T) f a 0)).bind _
    cases pTake (by' T) 4 a with
    | out => rfl
    | bad e a => rfl
    | ok _ a1 =>
      simp only [Res.cr, Res.wn, Res.bind]
      cases pName (by' T) a1 with
      | out => rfl
      | bad e a => rfl
      | ok nm a2 =>
        dsimp only
        cases pTake (by' T) 10 a2 with
        | out => rfl
        | bad e a => rfl
        | ok _ a3 =>
          dsimp only
          cases brk (by' T) f a3 with
          | out => rfl
          | bad e a => rfl
          | ok more a4 =>
            dsimp only
            cases pTake (by' T) 14 a4 with
            | out => rfl
            | bad e a => rfl
            | ok _ a5 =>
              dsimp only
              cases pExpr (by' T) f a5 0 <;> rfl
  have nf : qf ≠ .out := Res.out_bind (by rw [← hqq]; exact hro)
  have ne : qe ≠ .out := Res.out_cr (by rw [← hqf]; exact nf)
  have nd : qd ≠ .out := Res.out_wn (by rw [← hqe]; exact ne)
  have n2 : q2 ≠ .out := by rw [hq2]; exact Res.cr_out (by rw [← hqd]; exact nd)
  have hlt := hg.h.lt
  obtain ⟨W0, hW0⟩ : ∃ W0, w.alloc (.cells #[.string ⟨#[]⟩, .int .i64 0, .slice none 0 0, .slice none 0 0, .pointer none] 51) = W0 := ⟨_, rfl⟩
  have hb0 : Below w.heap.size w W0 := by rw [← hW0]; exact (Below.refl w.heap.size w).alloc (Nat.le_refl _) _
  have hg0 : RgG W0 R T a 0 := hg.keep (hb0.block _ hlt)
  have HX0 : Hid (RgFS R T w w.heap.size W0 (.ok () a : Res Unit) ⟨#[]⟩ 0 (.slice none 0 0) (.slice none 0 0) (.pointer none)) := ⟨Fr.below hb0 (Nat.le_of_lt hlt), Or.inl hg0, by rw [← hW0]; exact heap_alloc_new w _, Nat.le_refl _, hlt⟩
  have HWa := hid (rwant_any R 0 4 T ⟨#[102, 110]⟩ (.ok () a : Res Unit) W0 (Or.inl hg0) (by decide) (by decide) rfl)
  have HNb := hid (fun (V : World) (h : RgW V R T qa 0) => rname_any R 0 T qa V h)
  have HWc := hid (fun (V : World) (h : RgW V R T qb 0) => rwant_any R 0 10 T ⟨#[40]⟩ qb V h (by decide) (by decide) rfl)
  have HTn := hid (fun (V : World) (h : RgW V R T qc 0) => rtake_any R 0 11 T ⟨#[41]⟩ qc V h (by decide) (by decide) rfl)
  have HNm := hid (fun (xs : List (List UInt8 × Nat)) (p : Nat) (V : World) (h : RgW V R T (.ok xs p : Res (List (List UInt8 × Nat))) 0) => rname_any R 0 T (.ok xs p : Res (List (List UInt8 × Nat))) V h)
  have HTk := hid (fun (rc : Res (List (List UInt8 × Nat))) (V : World) (h : RgW V R T rc 0) => rtake_any R 0 12 T ⟨#[44]⟩ rc V h (by decide) (by decide) rfl)
  have HWr := hid (fun (rc : Res (List (List UInt8 × Nat))) (V : World) (h : RgW V R T rc 0) => rwant_any R 0 11 T ⟨#[41]⟩ rc V h (by decide) (by decide) rfl)
  have HWe := hid (fun (V : World) (h : RgW V R T qd 0) => rwant_any R 0 14 T ⟨#[61]⟩ qd V h (by decide) (by decide) rfl)
  have HEf := hid (fun (V : World) (h : RgW V R T qe 0) => (rgall_any R T f).1 _ qe 0 V h (Res.cr_out (by rw [← hqf]; exact nf)))
  have HQa := hid hqa
  have HQb := hid hqb
  have HQc := hid hqc
  have HQ2 := hid hq2
  have HQd := hid hqd
  have HQe := hid hqe
  have HQf := hid hqf
  have HQQ := hid hqq
  have HN2 := hid n2
  have HSM := hid hg.small
  obtain ⟨X, hX⟩ : ∃ X, X = w.heap.size := ⟨_, rfl⟩
  rw [← hX] at HX0
  have HXX := hid hX
  have HWD : Hid (∀ en w', FnE R T q w en w' → FnE R T q w en w') := fun _ _ h => h
  clear hg hq hro hqa hqb hqc hq2 hqd hqe hqf hqq nf ne nd n2 hb0 hg0
  go_enter Tryz.func22, Tryz.ntmps22
  go_wp2_with fail
  rw [← hX]
  clear hW0 hX
  refine HWa.out.mono ?_
  rintro e w1 ⟨rfl, hf1, hm1⟩
  have HX1 : Hid (RgFS R T w X w1 qa ⟨#[]⟩ 0 (.slice none 0 0) (.slice none 0 0) (.pointer none)) := by unfold Hid; rw [HQa.out]; exact HX0.out.step hf1 hm1
  obtain ⟨A, r1, hA⟩ := HX1.out.rm.at
  have HA := hid hA
  have x1 := HX1.out.c1
  have y1 := HX1.out.fz 1
  clear hf1 hm1 hA HX0 HWa
  go_wp2_with fail
  have HX2 := hid (HX1.out.put1 A)
  generalize w1.setCell ⟨X, 1, none⟩ (.int .i64 A) = w2 at *
  clear x1 y1 r1
  refine (HNb.out w2 HX2.out.rm).mono ?_
  rintro e w3 ⟨v, rfl, hf3, hm3, hv3⟩
  rw [← HQb.out] at hm3 hv3
  have HX3 := hid (HX2.out.step hf3 hm3)
  have HV3 := hid hv3
  have x0 := HX3.out.c0
  have y0 := HX3.out.fz 0
  clear hf3 hm3 hv3 HX2 HNb
  go_wp2_with fail
  have HX4 := hid (HX3.out.put0 v)
  generalize w3.setCell ⟨X, 0, none⟩ (.string v) = w4 at *
  clear x0 y0 HX3
  refine (HWc.out w4 HX4.out.rm).mono ?_
  rintro e w5 ⟨rfl, hf5, hm5⟩
  have HX5 : Hid (RgFS R T w X w5 qc v A (.slice none 0 0) (.slice none 0 0) (.pointer none)) := by unfold Hid; rw [HQc.out]; exact HX4.out.step hf5 hm5
  clear hf5 hm5 HX4 HWc
  go_wp2_with fail
  refine (HTn.out w5 HX5.out.rm).mono ?_
  rintro e W ⟨hf6, hcs⟩
  have hXW : ∃ b : Bool, e = .returned (.bool b) ∧ FInv R X f T v A w W q2 (!b) none 0 0 none 0 W := by
    rcases hcs with ⟨rfl, nm, a1, hr, hk, hm6⟩ | ⟨rfl, hm6, hk⟩
    · refine ⟨true, rfl, Nat.le_refl _, .ok [] (tok (by' T) a1).nx, HX5.out.step hf6 (hm6.of rfl), fun h => (nomatch h), fun _ => ⟨?_, fun xs jj h => ?_⟩⟩
      · rw [HQ2.out, hr]
        exact (brk_none hk).symm
      · rw [HQ2.out, hr] at h
        have h : brk (by' T) f a1 = .ok xs jj := h
        rw [brk_none hk] at h
        injection h with h _
        rw [← h]
        exact RgRow.nil _ _
    · rcases hm6.cases with ⟨nm, a1, hr, hg6⟩ | ⟨e, a', hfa, hr⟩
      · refine ⟨false, rfl, Nat.le_refl _, .ok [] a1, HX5.out.step hf6 (Or.inl hg6), fun _ => Or.inl ⟨[], a1, rfl, RgRow.nil _ _, Nat.zero_le _, hg6.le, f, Nat.le_refl _, ?_⟩, fun h => (nomatch h)⟩
        rw [HQ2.out, hr]
        show brk (by' T) f a1 = _
        unfold brk brn
        rw [if_neg (hk nm a1 hr)]
        rfl
      · have hq2 : q2 = .bad e a' := by
          rw [HQ2.out]
          rcases hr with h | ⟨nm, a1, h, h0, rfl, rfl⟩
          · rw [h]; rfl
          · rw [h]; exact brk_bad h0
        exact ⟨false, rfl, Nat.le_refl _, q2, HX5.out.step hf6 (by rw [hq2]; exact hfa), fun _ => Or.inr ⟨rfl, e, a', hq2⟩, fun h => (nomatch h)⟩
  obtain ⟨b0, rfl, hI0⟩ := hXW
  have HI0 := hid hI0
  have HXW : Hid (X < W.heap.size ∧ R < X) := ⟨by obtain ⟨_, rc, h, _⟩ := hI0; exact h.lt, by have := HX5.out.hX; have := HX5.out.hR; omega⟩
  have HWw : Hid (w.heap.size ≤ W.heap.size) := by unfold Hid; have := HX5.out.fr.size; have := hf6.size; omega
  clear hcs hI0 hf6 HTn HX5
  go_wp2_with fail
  go_loopw [5] (fun bv wr => ∃ (b : Bool) (am : Option Addr) (n cm : Nat) (aw : Option Addr) (cw : Nat), bv = .bool b ∧ Hid (FInv R X f T v A w W q2 b am n cm aw cw wr)) (fun bv wr => match bv with | .bool true => rgm R T wr + 1 | _ => 0)
  case atStart => exact ⟨_, none, 0, 0, none, 0, rfl, HI0⟩
  case round =>
    obtain ⟨b, am, n, cm, aw, cw, rfl, hI⟩ := hrel
    clear HI0
    obtain ⟨hsW, rc, hFS, htr, hfl⟩ := hI.out
    cases b with
    | false =>
      obtain ⟨hrc, hkf⟩ := hfl rfl
      rw [hrc] at hFS
      have HL4 := hid hFS
      have HKF := hid hkf
      clear hI hFS htr hfl hkf hsW hrc
      have hm7 : RgW wr R T qd 0 := by rw [HQd.out]; exact RgW.cr (p := brk (by' T) f) (by rw [← HQ2.out]; exact HL4.out.rm)
      have HM7 := hid hm7
      clear hm7
      go_wp2_with fail
      refine (HWe.out wr HM7.out).mono ?_
      rintro e w7 ⟨rfl, hf7, hm7⟩
      have HX7 : Hid (RgFS R T w X w7 qe v A (.slice am n cm) (.slice aw n cw) (.pointer none)) := by unfold Hid; rw [HQe.out]; exact HL4.out.step hf7 hm7
      have HK7 : Hid (∀ xs jj, q2 = .ok xs jj → RgRow W.heap.size w7 (.slice am n cm) (.slice aw n cw) n xs) := fun xs jj h => (HKF.out xs jj h).fr hf7 (by have := HXW.out; omega)
      clear hf7 hm7
      go_wp2_with fail
      refine (HEf.out w7 HX7.out.rm).mono ?_
      rintro e w8 ⟨pb, rfl, hf8, hm8, ht8⟩
      have HX8 : Hid (RgFS R T w X w8 qf v A (.slice am n cm) (.slice aw n cw) (.pointer none)) := by unfold Hid; rw [HQf.out]; exact HX7.out.step hf8 hm8.cr
      have x4 := HX8.out.c4
      have y4 := HX8.out.fz 4
      obtain ⟨w9, hw9⟩ : ∃ w9, w8.setCell ⟨X, 4, none⟩ (.pointer pb) = w9 := ⟨_, rfl⟩
      have HE : Hid (FnE R T q w (.returned (.pointer (some ⟨X, 0, none⟩))) w9) := by
        have hX9 : RgFS R T w X w9 qf v A (.slice am n cm) (.slice aw n cw) (.pointer pb) := by rw [← hw9]; exact HX8.out.put4 _
        have hf9 : Fr X w8 w9 := by rw [← hw9]; exact (Fr.refl X w8).set 4 _
        refine ⟨X, rfl, hX9.fr, by rw [HQQ.out]; exact hX9.rm.map _, fun g j hgj => ?_⟩
        rw [HQQ.out] at hgj
        obtain ⟨z, a9, h9, hgj⟩ := Res.bind_ok hgj
        obtain ⟨⟨nm, more⟩, body⟩ := z
        injection hgj with hgj _
        subst hgj
        rw [HQf.out] at h9
        have kb := ht8 _ _ (Res.cr_of h9)
        obtain ⟨a8, h8, _⟩ := Res.cr_ok h9
        rw [HQe.out] at h8
        obtain ⟨a7, h7⟩ := Res.wn_ok h8
        rw [HQd.out] at h7
        have hrow : RgRow W.heap.size w9 (.slice am n cm) (.slice aw n cw) n more := ((HK7.out more a7 (by rw [HQ2.out]; exact Res.cr_of h7)).fr hf8 (by have := HXW.out; omega)).fr hf9 HXW.out.1
        obtain ⟨a6, h6, _⟩ := Res.cr_ok h7
        rw [HQc.out] at h6
        obtain ⟨a5, h5⟩ := Res.wn_ok h6
        have kv := HV3.out _ _ h5
        rw [HQb.out] at h5
        obtain ⟨u, a4, h4, h5⟩ := Res.bind_ok h5
        have kA := HA.out u a4 h4 (pName_at h5).1
        rw [← (pName_at h5).2] at kA
        have hln := hrow.len
        subst hln
        have hsw := HWw.out
        refine ⟨am, cm, aw, cw, pb, hX9.hX, ?_, ⟨ownsRow_room hrow.m, ownsRow_none hrow.m⟩, ?_, fun i x hx => ?_, fun i x hx => ?_⟩
        · have := hX9.xb
          rw [kv, kA] at this
          exact this
        · rw [← hw9]
          exact (kb.put HX7.out.lt 4 _).mono HX7.out.fr.size
        · obtain ⟨k, k1, k2, k3⟩ := ownsRow_at hrow.m i (.string (bs x.1)) (by simp [hx])
          exact ⟨k, k1, by omega, k3⟩
        · obtain ⟨k, k1, k2, k3⟩ := ownsRow_at hrow.s i (.int .i64 (x.2 : Int)) (by simp [hx])
          exact ⟨k, k1, by omega, k3⟩
      clear hf8 hm8 ht8 HX8
      go_wp2_with fail
      go_ret
      exact HWD.out _ _ HE.out
    | true =>
      rcases htr rfl with ⟨xs, p, rfl, hRow, hlen, hp, g, hgf, hq2⟩ | ⟨hrc, e, a', hq5⟩
      · clear htr hfl hI
        rcases hFS.rm.cases with ⟨ts', p', he, hg⟩ | ⟨e, a', hfa, hr⟩
        · injection he with he1 he2
          subst he1 he2
          have c4 := hg.h.c4
          have c1 := hg.h.c1
          have HL4 := hid hFS
          have HRow := hid hRow
          have HP := hid (And.intro hlen hp)
          have HQ3 := hid hq2
          have HGF := hid hgf
          have HSW := hid hsW
          have HGM := hid hg.rgm
          have HAT := hid (tok_at (by' T) p (by rw [by_len]; exact hp))
          have x3 := hFS.c3
          have d1 : ∀ d, ({ wr with drawn := d } : World).cell? ⟨R, 1, none⟩ = some (.int .i64 ((tok (by' T) p).at' : Nat)) := fun d => c1
          have d3 : ∀ d, ({ wr with drawn := d } : World).cell? ⟨X, 3, none⟩ = some (.slice aw n cw) := fun d => x3
          generalize hpa : (tok (by' T) p).at' = pa at *
          have HPA := hid hpa
          clear hFS hRow hlen hp hq2 hgf hsW hg hpa
          go_wp2_with fail
          have hC0 : wr.drew.cell? ⟨X, 3, none⟩ = some (.slice aw n cw) ∧ wr.drew.cell? ⟨R, 1, none⟩ = some (.int .i64 (pa : Int)) := ⟨x3, c1⟩
          refine wp_region_S (C := fun W => W.cell? ⟨X, 3, none⟩ = some (.slice aw n cw) ∧ W.cell? ⟨R, 1, none⟩ = some (.int .i64 (pa : Int))) (st := [13]) hmx ?_
          refine wpAnyS_pure (i := 0) (v := .pointer (some ⟨X, 0, none⟩)) rfl (by kernel_rfl) (by kernel_rfl) (by kernel_rfl) (by kernel_rfl) (fun _ _ _ h => h) (Or.inl ⟨by rfl, fun W _ => by go_simp⟩) (fun _ => hC0) ?_
          refine wpAnyS_pure (i := 1) (v := .pointer (some ⟨X, 0, none⟩)) rfl (by kernel_rfl) (by kernel_rfl) (by kernel_rfl) (by kernel_rfl) (fun _ _ _ h => h) (Or.inl ⟨by rfl, fun W _ => by go_simp⟩) (fun _ => hC0) ?_
          refine wpAnyS_pure (i := 2) (v := .pointer (some ⟨X, 0, none⟩)) rfl (by kernel_rfl) (by kernel_rfl) (by kernel_rfl) (by kernel_rfl) (fun _ _ _ h => h) (Or.inl ⟨by rfl, fun W _ => by go_simp⟩) (fun _ => hC0) ?_
          refine wpAnyS_pure (i := 3) (v := .pointer (some ⟨X, 3, none⟩)) rfl (by kernel_rfl) (by kernel_rfl) (by kernel_rfl) (by kernel_rfl) (fun _ _ _ h => h) (Or.inl ⟨by rfl, fun W _ => by go_simp⟩) (fun _ => hC0) ?_
          refine wpAnyS_take (i := 4) (v := .slice aw n cw) rfl (by kernel_rfl) (by kernel_rfl) (by kernel_rfl) (by kernel_rfl) (by kernel_rfl) (by kernel_rfl) (fun _ _ _ h => h) (Or.inl ⟨by rfl, fun W hC => by (obtain ⟨x0, x1⟩ := hC; go_simp)⟩) hC0 ?_
          refine wpAnyS_pure (i := 5) (v := .pointer (some ⟨R, 0, none⟩)) rfl (by kernel_rfl) (by kernel_rfl) (by kernel_rfl) (by kernel_rfl) (fun _ _ _ h => h) (Or.inl ⟨by rfl, fun W _ => by go_simp⟩) (fun _ => hC0) ?_
          refine wpAnyS_pure (i := 6) (v := .pointer (some ⟨R, 0, none⟩)) rfl (by kernel_rfl) (by kernel_rfl) (by kernel_rfl) (by kernel_rfl) (fun _ _ _ h => h) (Or.inl ⟨by rfl, fun W _ => by go_simp⟩) (fun _ => hC0) ?_
          refine wpAnyS_pure (i := 7) (v := .pointer (some ⟨R, 1, none⟩)) rfl (by kernel_rfl) (by kernel_rfl) (by kernel_rfl) (by kernel_rfl) (fun _ _ _ h => h) (Or.inl ⟨by rfl, fun W _ => by go_simp⟩) (fun _ => hC0) ?_
          refine wpAnyS_take (i := 8) (v := .int .i64 (pa : Int)) rfl (by kernel_rfl) (by kernel_rfl) (by kernel_rfl) (by kernel_rfl) (by kernel_rfl) (by kernel_rfl) (fun _ _ _ h => h) (Or.inl ⟨by rfl, fun W hC => by (obtain ⟨x0, x1⟩ := hC; go_simp)⟩) hC0 ?_
          refine wpAnyS_one (i := 9) (by kernel_rfl) ?_
          refine wpOp_step rfl (fun K' hK' => ?_)
          rw [if_pos (by rfl)]
          go_simp
          obtain ⟨WA, hWA⟩ : ∃ WA, WA = (wr.alloc (.cells #[.int .i64 (pa : Int)] 3)).drew := ⟨_, rfl⟩
          have hbA : Below wr.heap.size wr WA := by rw [hWA]; exact ((Below.refl _ _).alloc (Nat.le_refl _) _).drew
          have hLA : RgFS R T w X WA (.ok xs p : Res (List (List UInt8 × Nat))) v A (.slice am n cm) (.slice aw n cw) (.pointer none) := by rw [hWA]; exact (HL4.out.alloc _).drew
          have hC1 : WA.cell? ⟨X, 3, none⟩ = some (.slice aw n cw) ∧ WA.cell? ⟨R, 1, none⟩ = some (.int .i64 (pa : Int)) := ⟨hLA.c3, (hbA.cell (p := ⟨R, 1, none⟩) (World.block_lt_of_cell? _ _ c1)).trans c1⟩
          rw [← hWA]
          refine hK' _ _ ⟨fun _ => hC1, ?_⟩
          clear hK' K'
          have hcA : WA.heap[wr.heap.size]? = some (.cells #[.int .i64 (pa : Int)] 3 (0, 0)) := by rw [hWA]; exact heap_alloc_new wr _
          have hfA : Fr X wr WA := Fr.below hbA (Nat.le_of_lt HL4.out.lt)
          have hRowA := HRow.out.fr hfA HXW.out.1
          have hn4 : n ≤ 4000 := by
            have h7 := HP.out
            have h8 := HSM.out
            omega
          have hsA : W.heap.size ≤ WA.heap.size := Nat.le_trans HSW.out hbA.size
          obtain ⟨v', w5, hrun, hown2, hgrow, _, hwhere⟩ := run_append_own_at WA W.heap.size 25 25 3 iI _ 1 8 Tryz.underlying25 HII.out.1 HII.out.2.1 HII.out.2.2.1 HII.out.2.2.2 rfl (by decide) (.slice aw n cw) n (xs.map fun x => .int .i64 (x.2 : Int)) hRowA.s ⟨wr.heap.size, 0, none⟩ 1 1 [.int .i64 (pa : Int)] rfl (by
            intro j u hj
            have hadd : (⟨wr.heap.size, 0, none⟩ : Addr).add j = ⟨wr.heap.size, j, none⟩ := by unfold Addr.add; split <;> simp_all
            rw [hadd]
            simp only [World.cell?, hcA]
            simpa using hj) (by intro u hu; simp at hu; subst hu; rfl) (by unfold maxLen; omega) (by omega) hsA
          obtain ⟨a2, c2, hv'⟩ := ownsRow_form hown2
          subst hv'
          have hgl : ∀ k, (Value.slice aw n cw).ownBlock = some k → W.heap.size ≤ k ∧ k < WA.heap.size := fun k e => hRowA.s.lt k e
          have hL5 := hLA.grown hgrow (fun k e => (hgl k e).1) HXW.out.1
          have hC2 : w5.cell? ⟨X, 3, none⟩ = some (.slice aw n cw) ∧ w5.cell? ⟨R, 1, none⟩ = some (.int .i64 (pa : Int)) := ⟨hL5.c3, hgrow.cell hC1.2 (fun e => by have := (hgl R e.symm).1; have := HXW.out; omega)⟩
          refine wpAnyS_one (i := 10) (by kernel_rfl) ?_
          refine wpOp_step rfl (fun K' hK' => ?_)
          rw [if_pos (by rfl)]
          refine rg_append _ _ 25 25 rfl _ _ (.slice a2 (n + 1) c2) rfl rfl hrun ?_
          refine hK' _ _ ⟨fun _ => hC2, ?_⟩
          clear hK' K'
          refine wpAnyS_pure (i := 11) (v := .pointer (some ⟨X, 0, none⟩)) rfl (by kernel_rfl) (by kernel_rfl) (by kernel_rfl) (by kernel_rfl) (fun _ _ _ h => h) (Or.inl ⟨by rfl, fun W _ => by go_simp⟩) (fun _ => hC2) ?_
          refine wpAnyS_pure (i := 12) (v := .pointer (some ⟨X, 3, none⟩)) rfl (by kernel_rfl) (by kernel_rfl) (by kernel_rfl) (by kernel_rfl) (fun _ _ _ h => h) (Or.inl ⟨by rfl, fun W _ => by go_simp⟩) (fun _ => hC2) ?_
          have y3 := hL5.fz 3
          have z3 := hL5.c3
          refine wpAnyS_one (i := 13) (by kernel_rfl) ?_
          refine wpOp_step rfl (fun K' hK' => ?_)
          rw [if_pos (by rfl)]
          go_simp
          refine hK' _ _ ⟨fun h => absurd (h 13 (by simp)) (by decide), ?_⟩
          clear hK' K'
          refine wpAnyS_done (by kernel_rfl) ?_ _
          have HL6 := hid (hL5.put3 (.slice a2 (n + 1) c2))
          have hRow5m : w5.ownsRow W.heap.size 9 1 (.slice am n cm) n (xs.map fun x => .string (bs x.1)) := by
            refine ⟨hRowA.m.1, ?_⟩
            rcases hRowA.m.2 with hn | ⟨g', cap, cur, h1, hbs, hg', rest⟩
            · exact .inl hn
            · refine .inr ⟨g', cap, cur, h1, hbs, (hgrow.block g' (Array.getElem?_eq_some_iff.1 hg').1 (fun e => hRowA.ne g' (by rw [h1]; rfl) e.symm)).trans hg', rest⟩
          have hne5 : ∀ k, (Value.slice am n cm).ownBlock = some k → ¬ (Value.slice a2 (n + 1) c2).ownBlock = some k := fun k e1 e2 => by
            have k1 := hRowA.m.lt k e1
            rcases hwhere with e | e
            · rw [e] at e2; exact hRowA.ne k e1 e2
            · rw [e] at e2; injection e2 with e2; omega
          obtain ⟨w6, hw6⟩ : ∃ w6, w5.setCell ⟨X, 3, none⟩ (.slice a2 (n + 1) c2) = w6 := ⟨_, rfl⟩
          rw [hw6] at HL6
          have hf6 : Fr X w5 w6 := by rw [← hw6]; exact (Fr.refl X w5).set 3 _
          have HR6 : Hid (w6.ownsRow W.heap.size 9 1 (.slice am n cm) n (xs.map fun x => .string (bs x.1)) ∧ w6.ownsRow W.heap.size 3 1 (.slice a2 (n + 1) c2) (n + 1) ((xs.map fun x => .int .i64 (x.2 : Int)) ++ [.int .i64 (pa : Int)])) := ⟨ownsRow_fr hRow5m hf6 HXW.out.1, ownsRow_fr hown2 hf6 HXW.out.1⟩
          have HNE6 := hid hne5
          have HS6 : Hid (W.heap.size ≤ w6.heap.size) := by unfold Hid; have := hf6.size; have := hgrow.size; omega
          have HN4 := hid hn4
          rw [hw6]
          clear hw6 hf6 hne5 hRow5m hn4 hwhere hgrow hown2 hrun hRowA hfA hcA hC0 hC1 hC2 hL5 hLA hbA hsA hgl y3 z3 x3 c1 d1 d3 c4 hWA HRow HL4
          go_wp2_with fail
          refine (HNm.out xs p w6 HL6.out.rm).mono ?_
          rintro e w7 ⟨vn, rfl, hf7, hm7, hv7⟩
          have hm7 : RgW w7 R T (pName (by' T) p) 0 := hm7
          have hv7 : ∀ x j, pName (by' T) p = .ok x j → vn = bs x.1 := hv7
          obtain ⟨rc4, hrc4⟩ : ∃ rc4 : Res (List (List UInt8 × Nat)), rc4 = (pName (by' T) p).bind fun x j => .ok (xs ++ [x]) j := ⟨_, rfl⟩
          have HL7 : Hid (RgFS R T w X w7 rc4 v A (.slice am n cm) (.slice a2 (n + 1) c2) (.pointer none)) := HL6.out.step hf7 (by rw [hrc4]; exact hm7.map _)
          have hbR : R < W.heap.size := by have := HXW.out; omega
          have hs7 : W.heap.size ≤ w7.heap.size := Nat.le_trans HS6.out hf7.size
          have hR7m := ownsRow_fr HR6.out.1 hf7 hbR
          have hR7s := ownsRow_fr HR6.out.2 hf7 hbR
          obtain ⟨WB, hWB⟩ : ∃ WB, WB = w7.alloc (.cells #[.string vn] 9) := ⟨_, rfl⟩
          have hbB : Below w7.heap.size w7 WB := by rw [hWB]; exact (Below.refl _ _).alloc (Nat.le_refl _) _
          have hfB : Fr X w7 WB := Fr.below hbB (Nat.le_of_lt HL7.out.lt)
          have HOB : Hid (WB.ownsRow W.heap.size 9 1 (.slice am n cm) n (xs.map fun x => .string (bs x.1)) ∧ WB.ownsRow W.heap.size 3 1 (.slice a2 (n + 1) c2) (n + 1) ((xs.map fun x => .int .i64 (x.2 : Int)) ++ [.int .i64 (pa : Int)])) := ⟨ownsRow_fr hR7m hfB HXW.out.1, ownsRow_fr hR7s hfB HXW.out.1⟩
          have HLB : Hid (RgFS R T w X WB rc4 v A (.slice am n cm) (.slice a2 (n + 1) c2) (.pointer none)) := by unfold Hid; rw [hWB]; exact HL7.out.alloc _
          have HGA : Hid (∀ w8, WB.grownBy w8 (Value.slice am n cm).ownBlock → RgFS R T w X w8 rc4 v A (.slice am n cm) (.slice a2 (n + 1) c2) (.pointer none)) := fun w8 hgr => HLB.out.grown hgr (fun k e => (HOB.out.1.lt k e).1) HXW.out.1
          have HS7 := hid hs7
          have HSB : Hid (w7.heap.size ≤ WB.heap.size) := hbB.size
          have HRC := hid hrc4
          have HV7 := hid hv7
          have HWB := hid hWB
          have x2 := HL7.out.c2
          clear hf7 hm7 hv7 hR7m hR7s hbB hfB hs7 hrc4 hWB HL6 HR6
          go_wp2_with (at_builtin; refine wpList_append_own_at _ rfl _ _ 48 rfl W.heap.size 9 iS (.string ⟨#[]⟩) 1 16 Tryz.underlying48 HIS.out.1 HIS.out.2.1 HIS.out.2.2.1 HIS.out.2.2.2 rfl (by decide) (.slice am n cm) n (xs.map fun x => .string (bs x.1)) rfl (by rw [← HWB.out]; exact HOB.out.1) ⟨w7.heap.size, 0, none⟩ 1 1 [.string vn] rfl rfl (cell_one_new _ _ _) (by simp [Value.oneCell']) (by have := HN4.out; unfold maxLen; omega) (by have := HN4.out; omega) (by have := HS7.out; simp; omega) ?_; intro v' w8 hown2 hgrow _ hwhere; rw [← HWB.out] at hgrow hwhere; obtain ⟨a3, c3, hv'⟩ := ownsRow_form hown2; subst hv'; have hL8 := HGA.out w8 hgrow; have x5 := hL8.c2; have y5 := hL8.fz 2)
          obtain ⟨w9, hw9⟩ : ∃ w9, w8.setCell ⟨X, 2, none⟩ (.slice a3 (n + 1) c3) = w9 := ⟨_, rfl⟩
          have hf9 : Fr X w8 w9 := by rw [← hw9]; exact (Fr.refl X w8).set 2 _
          have HL9 : Hid (RgFS R T w X w9 rc4 v A (.slice a3 (n + 1) c3) (.slice a2 (n + 1) c2) (.pointer none)) := by unfold Hid; rw [← hw9]; exact hL8.put2 _
          have hR8s : w8.ownsRow W.heap.size 3 1 (.slice a2 (n + 1) c2) (n + 1) ((xs.map fun x => .int .i64 (x.2 : Int)) ++ [.int .i64 (pa : Int)]) := by
            refine ⟨HOB.out.2.1, ?_⟩
            rcases HOB.out.2.2 with hn | ⟨g', cap, cur, h1, hbs, hg', rest⟩
            · exact .inl hn
            · refine .inr ⟨g', cap, cur, h1, hbs, (hgrow.block g' (Array.getElem?_eq_some_iff.1 hg').1 (fun e => HNE6.out g' e.symm (by rw [h1]; rfl))).trans hg', rest⟩
          have HRow9 : Hid (∀ x j, pName (by' T) p = .ok x j → RgRow W.heap.size w9 (.slice a3 (n + 1) c3) (.slice a2 (n + 1) c2) (n + 1) (xs ++ [x])) := fun x j h => by
            have e1 := HV7.out x j h
            have e2 := (pName_at h).2
            rw [HPA.out] at e2
            refine ⟨?_, ?_, fun k k1 k2 => ?_⟩
            · have := ownsRow_fr hown2 hf9 HXW.out.1
              rw [e1] at this
              simpa using this
            · have := ownsRow_fr hR8s hf9 HXW.out.1
              rw [← e2] at this
              simpa using this
            · rcases hwhere with e | e
              · rw [e] at k1; exact HNE6.out k k1 k2
              · rw [e] at k1
                injection k1 with k1
                have := HOB.out.2.lt k k2
                omega
          have HS9 : Hid (W.heap.size ≤ w9.heap.size) := by unfold Hid; have h1 := hf9.size; have h2 := hgrow.size; have h3 := HSB.out; have h4 := HS7.out; omega
          rw [hw9]
          clear hown2 hgrow hwhere hL8 x5 y5 hR8s hf9 hw9 x2
          refine (HTk.out rc4 w9 HL9.out.rm).mono ?_
          rintro e w10 ⟨hf10, ⟨rfl, xs', j', hr, hk12, hm10⟩ | ⟨rfl, hm10, hk12⟩⟩
          · have hL10 := HL9.out.step hf10 hm10
            have hr0 := HRC.out
            rw [hr] at hr0
            obtain ⟨y, jy, hy, hy2⟩ := Res.bind_ok hr0.symm
            injection hy2 with hy2 hy3
            subst hy2 hy3
            have hRow10 := (HRow9.out y jy hy).fr hf10 hbR
            have hq3 := HQ3.out
            unfold brn at hq3
            rw [hy] at hq3
            have hq3 : q2 = (pNames (by' T) g (xs ++ [y]) jy).bind fun ys a3 => (pTake (by' T) 11 a3).bind fun _ a4 => .ok ys a4 := hq3
            have hfx := pName_fx (by' T) p (by rw [by_len]; exact HP.out.2)
            rw [hy] at hfx
            have hfx1 := hfx.1
            have hfx2 := hfx.2
            rw [by_len] at hfx2
            have hta := tok_at (by' T) jy (by rw [by_len]; exact hfx2)
            rw [by_len] at hta
            have hnx := hta.2.2.2.1 (by omega)
            have hjn : jy = (tok (by' T) p).nx := by
              unfold pName pTake at hy
              split at hy
              · simp only [Res.bind] at hy
                split at hy
                · cases hy
                · injection hy with _ hy; exact hy.symm
              · cases hy
            have hg7 : ∃ g', g' ≤ f ∧ q2 = brn (by' T) g' (xs ++ [y]) (tok (by' T) jy).nx := by
              cases g with
              | zero => rw [pNames] at hq3; exact absurd hq3 HN2.out
              | succ g' => exact ⟨g', by have := HGF.out; omega, by rw [pNames, if_pos hk12] at hq3; exact hq3⟩
            have HI7 : Hid (FInv R X f T v A w W q2 true a3 (n + 1) c3 a2 c2 w10) := ⟨Nat.le_trans HS9.out hf10.size, _, hL10, fun _ => Or.inl ⟨_, _, rfl, hRow10, by have := HP.out.1; omega, hta.2.1, hg7⟩, fun h => (nomatch h)⟩
            have HM7 : Hid (rgm R T w10 < T.size + 1 - pa) := rgm_lt hm10 (fun _ j h => by
              injection h with _ h
              have h1 := hta.1
              have h2 := hta.2.1
              have h4 : pa ≤ jy := by rw [hjn, ← HPA.out]; unfold Tok.nx; omega
              subst h
              omega) (by have h1 := HAT.out.2.2.1; rw [by_len] at h1; omega)
            clear hf10 hr hk12 hm10 hL10 hRow10 hq3 hfx hfx1 hfx2 hta hnx hg7 hr0 hy hjn
            go_wp2_with fail
            go_roundw
            case rel => exact ⟨true, _, _, _, _, _, rfl, HI7⟩
            case measure =>
              have h1 := HM7.out
              have h2 := HGM.out
              simp only
              omega
          · have hqe : q2 = rc4.wn (by' T) 11 := by
              have hq3 := HQ3.out
              rw [hq3, HRC.out]
              unfold brn at hq3 ⊢
              cases hc : pName (by' T) p with
              | out => rfl
              | bad e a => rfl
              | ok y jy =>
                rw [hc] at hq3
                have hq3 : q2 = (pNames (by' T) g (xs ++ [y]) jy).bind fun ys a3 => (pTake (by' T) 11 a3).bind fun _ a4 => .ok ys a4 := hq3
                show (pNames (by' T) g (xs ++ [y]) jy).bind (fun ys a3 => (pTake (by' T) 11 a3).bind fun _ a4 => .ok ys a4) = _
                cases g with
                | zero => rw [pNames] at hq3; exact absurd hq3 HN2.out
                | succ g' =>
                  rw [pNames, if_neg (hk12 (xs ++ [y]) jy (by rw [HRC.out, hc]; rfl))]
                  rfl
            have HL10 := hid (HL9.out.step hf10 hm10)
            have HRow10 : Hid (∀ x j, pName (by' T) p = .ok x j → RgRow W.heap.size w10 (.slice a3 (n + 1) c3) (.slice a2 (n + 1) c2) (n + 1) (xs ++ [x])) := fun x j h => (HRow9.out x j h).fr hf10 hbR
            have HS10 : Hid (W.heap.size ≤ w10.heap.size) := Nat.le_trans HS9.out hf10.size
            have HQE := hid hqe
            clear hf10 hm10 hk12 hqe HRow9
            go_wp2_with fail
            refine (HWr.out rc4 w10 HL10.out.rm).mono ?_
            rintro e w11 ⟨rfl, hf11, hm11⟩
            have HI7 : Hid (FInv R X f T v A w W q2 false a3 (n + 1) c3 a2 c2 w11) := ⟨Nat.le_trans HS10.out hf11.size, q2, HL10.out.step hf11 (by rw [HQE.out]; exact hm11), fun h => (nomatch h), fun _ => ⟨rfl, fun xs2 jj h => by
                rw [HQE.out] at h
                obtain ⟨a', h⟩ := Res.wn_ok h
                rw [HRC.out] at h
                obtain ⟨y, jy, hy, hy2⟩ := Res.bind_ok h
                injection hy2 with hy2 _
                subst hy2
                exact (HRow10.out y jy hy).fr hf11 hbR⟩⟩
            clear hf11 hm11
            go_wp2_with fail
            go_roundw
            case rel => exact ⟨false, _, _, _, _, _, rfl, HI7⟩
            case measure => simp only; omega
        · have hq5 : q2 = .bad e a' := by
            rcases hr with h | ⟨x', j', h, h0, rfl, rfl⟩
            · cases h
            · injection h with _ h
              subst h
              rw [hq2]
              exact brn_bad h0
          obtain ⟨he, at', tk, dp, hR⟩ := hfa
          have c4 := hR.c4
          have q4 : ((e : Int) == 0) = false := by simp; omega
          have HL4 : Hid (RgFS R T w X wr q2 v A (.slice am n cm) (.slice aw n cw) (.pointer none)) := hFS.step (Fr.refl _ _) (by rw [hq5]; exact ⟨he, at', tk, dp, hR⟩)
          have HKF : Hid (∀ xs jj, q2 = .ok xs jj → RgRow W.heap.size wr (.slice am n cm) (.slice aw n cw) n xs) := fun xs jj h => by rw [hq5] at h; cases h
          clear hFS hRow hlen hp hq2 hgf hsW hR he hr hq5
          have hm7 : RgW wr R T qd 0 := by rw [HQd.out]; exact RgW.cr (p := brk (by' T) f) (by rw [← HQ2.out]; exact HL4.out.rm)
          have HM7 := hid hm7
          clear hm7
          go_wp2_with fail
          refine (HWe.out wr HM7.out).mono ?_
          rintro e w7 ⟨rfl, hf7, hm7⟩
          have HX7 : Hid (RgFS R T w X w7 qe v A (.slice am n cm) (.slice aw n cw) (.pointer none)) := by unfold Hid; rw [HQe.out]; exact HL4.out.step hf7 hm7
          have HK7 : Hid (∀ xs jj, q2 = .ok xs jj → RgRow W.heap.size w7 (.slice am n cm) (.slice aw n cw) n xs) := fun xs jj h => (HKF.out xs jj h).fr hf7 (by have := HXW.out; omega)
          clear hf7 hm7
          go_wp2_with fail
          refine (HEf.out w7 HX7.out.rm).mono ?_
          rintro e w8 ⟨pb, rfl, hf8, hm8, ht8⟩
          have HX8 : Hid (RgFS R T w X w8 qf v A (.slice am n cm) (.slice aw n cw) (.pointer none)) := by unfold Hid; rw [HQf.out]; exact HX7.out.step hf8 hm8.cr
          have x4 := HX8.out.c4
          have y4 := HX8.out.fz 4
          obtain ⟨w9, hw9⟩ : ∃ w9, w8.setCell ⟨X, 4, none⟩ (.pointer pb) = w9 := ⟨_, rfl⟩
          have HE : Hid (FnE R T q w (.returned (.pointer (some ⟨X, 0, none⟩))) w9) := by
            have hX9 : RgFS R T w X w9 qf v A (.slice am n cm) (.slice aw n cw) (.pointer pb) := by rw [← hw9]; exact HX8.out.put4 _
            have hf9 : Fr X w8 w9 := by rw [← hw9]; exact (Fr.refl X w8).set 4 _
            refine ⟨X, rfl, hX9.fr, by rw [HQQ.out]; exact hX9.rm.map _, fun g j hgj => ?_⟩
            rw [HQQ.out] at hgj
            obtain ⟨z, a9, h9, hgj⟩ := Res.bind_ok hgj
            obtain ⟨⟨nm, more⟩, body⟩ := z
            injection hgj with hgj _
            subst hgj
            rw [HQf.out] at h9
            have kb := ht8 _ _ (Res.cr_of h9)
            obtain ⟨a8, h8, _⟩ := Res.cr_ok h9
            rw [HQe.out] at h8
            obtain ⟨a7, h7⟩ := Res.wn_ok h8
            rw [HQd.out] at h7
            have hrow : RgRow W.heap.size w9 (.slice am n cm) (.slice aw n cw) n more := ((HK7.out more a7 (by rw [HQ2.out]; exact Res.cr_of h7)).fr hf8 (by have := HXW.out; omega)).fr hf9 HXW.out.1
            obtain ⟨a6, h6, _⟩ := Res.cr_ok h7
            rw [HQc.out] at h6
            obtain ⟨a5, h5⟩ := Res.wn_ok h6
            have kv := HV3.out _ _ h5
            rw [HQb.out] at h5
            obtain ⟨u, a4, h4, h5⟩ := Res.bind_ok h5
            have kA := HA.out u a4 h4 (pName_at h5).1
            rw [← (pName_at h5).2] at kA
            have hln := hrow.len
            subst hln
            have hsw := HWw.out
            refine ⟨am, cm, aw, cw, pb, hX9.hX, ?_, ⟨ownsRow_room hrow.m, ownsRow_none hrow.m⟩, ?_, fun i x hx => ?_, fun i x hx => ?_⟩
            · have := hX9.xb
              rw [kv, kA] at this
              exact this
            · rw [← hw9]
              exact (kb.put HX7.out.lt 4 _).mono HX7.out.fr.size
            · obtain ⟨k, k1, k2, k3⟩ := ownsRow_at hrow.m i (.string (bs x.1)) (by simp [hx])
              exact ⟨k, k1, by omega, k3⟩
            · obtain ⟨k, k1, k2, k3⟩ := ownsRow_at hrow.s i (.int .i64 (x.2 : Int)) (by simp [hx])
              exact ⟨k, k1, by omega, k3⟩
          clear hf8 hm8 ht8 HX8
          go_wp2_with fail
          go_ret
          exact HWD.out _ _ HE.out
      · rw [hrc] at hFS
        have hfa := hFS.rm
        rw [hq5] at hfa
        obtain ⟨he, at', tk, dp, hR⟩ := hfa
        have c4 := hR.c4
        have q4 : ((e : Int) == 0) = false := by simp; omega
        have HL4 := hid hFS
        have HKF : Hid (∀ xs jj, q2 = .ok xs jj → RgRow W.heap.size wr (.slice am n cm) (.slice aw n cw) n xs) := fun xs jj h => by rw [hq5] at h; cases h
        clear hFS hsW hR he hq5 hrc htr hfl hI
        have hm7 : RgW wr R T qd 0 := by rw [HQd.out]; exact RgW.cr (p := brk (by' T) f) (by rw [← HQ2.out]; exact HL4.out.rm)
        have HM7 := hid hm7
        clear hm7
        go_wp2_with fail
        refine (HWe.out wr HM7.out).mono ?_
        rintro e w7 ⟨rfl, hf7, hm7⟩
        have HX7 : Hid (RgFS R T w X w7 qe v A (.slice am n cm) (.slice aw n cw) (.pointer none)) := by unfold Hid; rw [HQe.out]; exact HL4.out.step hf7 hm7
        have HK7 : Hid (∀ xs jj, q2 = .ok xs jj → RgRow W.heap.size w7 (.slice am n cm) (.slice aw n cw) n xs) := fun xs jj h => (HKF.out xs jj h).fr hf7 (by have := HXW.out; omega)
        clear hf7 hm7
        go_wp2_with fail
        refine (HEf.out w7 HX7.out.rm).mono ?_
        rintro e w8 ⟨pb, rfl, hf8, hm8, ht8⟩
        have HX8 : Hid (RgFS R T w X w8 qf v A (.slice am n cm) (.slice aw n cw) (.pointer none)) := by unfold Hid; rw [HQf.out]; exact HX7.out.step hf8 hm8.cr
        have x4 := HX8.out.c4
        have y4 := HX8.out.fz 4
        obtain ⟨w9, hw9⟩ : ∃ w9, w8.setCell ⟨X, 4, none⟩ (.pointer pb) = w9 := ⟨_, rfl⟩
        have HE : Hid (FnE R T q w (.returned (.pointer (some ⟨X, 0, none⟩))) w9) := by
          have hX9 : RgFS R T w X w9 qf v A (.slice am n cm) (.slice aw n cw) (.pointer pb) := by rw [← hw9]; exact HX8.out.put4 _
          have hf9 : Fr X w8 w9 := by rw [← hw9]; exact (Fr.refl X w8).set 4 _
          refine ⟨X, rfl, hX9.fr, by rw [HQQ.out]; exact hX9.rm.map _, fun g j hgj => ?_⟩
          rw [HQQ.out] at hgj
          obtain ⟨z, a9, h9, hgj⟩ := Res.bind_ok hgj
          obtain ⟨⟨nm, more⟩, body⟩ := z
          injection hgj with hgj _
          subst hgj
          rw [HQf.out] at h9
          have kb := ht8 _ _ (Res.cr_of h9)
          obtain ⟨a8, h8, _⟩ := Res.cr_ok h9
          rw [HQe.out] at h8
          obtain ⟨a7, h7⟩ := Res.wn_ok h8
          rw [HQd.out] at h7
          have hrow : RgRow W.heap.size w9 (.slice am n cm) (.slice aw n cw) n more := ((HK7.out more a7 (by rw [HQ2.out]; exact Res.cr_of h7)).fr hf8 (by have := HXW.out; omega)).fr hf9 HXW.out.1
          obtain ⟨a6, h6, _⟩ := Res.cr_ok h7
          rw [HQc.out] at h6
          obtain ⟨a5, h5⟩ := Res.wn_ok h6
          have kv := HV3.out _ _ h5
          rw [HQb.out] at h5
          obtain ⟨u, a4, h4, h5⟩ := Res.bind_ok h5
          have kA := HA.out u a4 h4 (pName_at h5).1
          rw [← (pName_at h5).2] at kA
          have hln := hrow.len
          subst hln
          have hsw := HWw.out
          refine ⟨am, cm, aw, cw, pb, hX9.hX, ?_, ⟨ownsRow_room hrow.m, ownsRow_none hrow.m⟩, ?_, fun i x hx => ?_, fun i x hx => ?_⟩
          · have := hX9.xb
            rw [kv, kA] at this
            exact this
          · rw [← hw9]
            exact (kb.put HX7.out.lt 4 _).mono HX7.out.fr.size
          · obtain ⟨k, k1, k2, k3⟩ := ownsRow_at hrow.m i (.string (bs x.1)) (by simp [hx])
            exact ⟨k, k1, by omega, k3⟩
          · obtain ⟨k, k1, k2, k3⟩ := ownsRow_at hrow.s i (.int .i64 (x.2 : Int)) (by simp [hx])
            exact ⟨k, k1, by omega, k3⟩
        clear hf8 hm8 ht8 HX8
        go_wp2_with fail
        go_ret
        exact HWD.out _ _ HE.out

end Go.Proofs.YtmmgkdcojkmlcaaGreatDoor
