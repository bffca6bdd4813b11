/- The reference of programs as text: call. -/
import Derived.Test.YthemehdcakimgaiGreatDoorBgAP
namespace Go.Proofs.YthemehdcakimgaiGreatDoor
open Go.RowKit

theorem blank_idem : ∀ (n : Nat) (l : List UInt8), l.length ≤ n → blank (blank l) = blank l
  | _, [], _ => by rw [blank, blank]
  | 0, c :: r, h => by simp at h
  | n + 1, c :: r, h => by
    simp at h
    have h2 := (List.dropWhile_sublist (l := r) (· != 10)).length_le
    rw [blank]
    split
    · exact blank_idem n r h
    · split
      · exact blank_idem n _ (by omega)
      · rename_i h3 h4
        rw [blank, if_neg h3, if_neg h4]
theorem tok_again (L : List UInt8) (a : Nat) : tok L (tok L a).at' = tok L a := by
  rw [tok_pst]
  unfold tok
  rw [drop_pst, blank_idem _ _ (Nat.le_refl _)]
theorem pTake_tok {L : List UInt8} {a b : Nat} (h : tok L a = tok L b) (k : Nat) : pTake L k a = pTake L k b := by unfold pTake; rw [h]
theorem pEnter_tok {L : List UInt8} {a b : Nat} (h : tok L a = tok L b) (k l : Nat) : pEnter L k a l = pEnter L k b l := by unfold pEnter; rw [pTake_tok h]
theorem pName_tok {L : List UInt8} {a b : Nat} (h : tok L a = tok L b) : pName L a = pName L b := by unfold pName; rw [pTake_tok h]
theorem pNum_tok {L : List UInt8} {a b : Nat} (h : tok L a = tok L b) : pNum L a = pNum L b := by unfold pNum; rw [pTake_tok h]
theorem pPart_tok {L : List UInt8} {a b : Nat} (h : tok L a = tok L b) (f l : Nat) : pPart L f a l = pPart L f b l := by
  cases f with
  | zero => rw [pPart, pPart]
  | succ f => rw [pPart, pPart, h, pName_tok h, pEnter_tok h, pEnter_tok h, pNum_tok h]
theorem pProd_tok {L : List UInt8} {a b : Nat} (h : tok L a = tok L b) (f l : Nat) : pProd L f a l = pProd L f b l := by
  cases f with
  | zero => rw [pProd, pProd]
  | succ f => rw [pProd, pProd, pPart_tok h]
theorem pSum_tok {L : List UInt8} {a b : Nat} (h : tok L a = tok L b) (f l : Nat) : pSum L f a l = pSum L f b l := by
  cases f with
  | zero => rw [pSum, pSum]
  | succ f => rw [pSum, pSum, pProd_tok h]
theorem pExpr_tok {L : List UInt8} {a b : Nat} (h : tok L a = tok L b) (f l : Nat) : pExpr L f a l = pExpr L f b l := by
  cases f with
  | zero => rw [pExpr, pExpr]
  | succ f => rw [pExpr, pExpr, h, pEnter_tok h, pEnter_tok h, pEnter_tok h, pSum_tok h]
theorem pExpr_at {L : List UInt8} {f p l j : Nat} {y : Tr} (h : pExpr L f p l = .ok y j) (hp : p ≤ L.length) : (tok L p).at' + 1 ≤ j := by
  rw [pExpr_tok (tok_again L p).symm] at h
  have h1 := (p_fx L f).1 (tok L p).at' l (tok_at L p hp).2.2.1
  rw [h] at h1
  exact h1.1
theorem ownsRow_form {base : Nat} {w : World} {e : TypeId} {k n : Nat} {v : Value} {xs : List Value} (h : w.ownsRow base e k v n xs) : ∃ a c, v = .slice a n c := by
  rcases h.2 with ⟨rfl, h0⟩ | ⟨g, cap, cur, rfl, _⟩
  · exact ⟨none, 0, by rw [h0]⟩
  · exact ⟨_, _, rfl⟩

/-- what stands in a call's loop -/
structure CInv (R X f l : Nat) (T nm : ByteArray) (A : Int) (w W : World) (q2 : Res (List Tr)) (b : Bool) (a : Option Addr) (n c : Nat) (wr : World) : Prop where
  sw : W.heap.size ≤ wr.heap.size
  ex : ∃ rc : Res (List Tr), LS R T w X wr rc (l + 1) ⟨#[99, 97, 108, 108]⟩ nm A (.slice a n c) ∧
          (b = true → ∃ ts p, rc = .ok ts p ∧ RowX W.heap.size wr (.slice a n c) ts ∧ ts.length ≤ p ∧ p ≤ T.size ∧ ∃ g, g ≤ f ∧ q2 = (pExpr (by' T) g p (l + 1)).bind fun x j => pArgs (by' T) g (ts ++ [x]) j (l + 1)) ∧
          (b = false → rc = q2 ∧ ∀ ts jj, q2 = .ok ts jj → n = ts.length ∧ XTs w.heap.size wr a ts 0)

set_option maxRecDepth 100000 in
set_option maxHeartbeats 4000000 in
theorem rcall_any (R X f j l : Nat) (T op nm : ByteArray) (A : Int) (w W : World) (hE : ∀ g, g ≤ f → EXP R T g) (hL : LS R T w X W (.ok () j : Res Unit) l op nm A (.slice none 0 0)) (hg : RgG W R T j l) (hk : (tok (by' T) j).kind = 10) (q : Res (List Tr)) (hq : q = pList (by' T) (f + 1) j l) (hro : q ≠ .out) :
    Calls Tryz.prog 107 #[.pointer (some ⟨R, 0, none⟩), .pointer (some ⟨X, 0, none⟩)] W fun en w' => en = .returned (.tuple #[]) ∧ ∃ a n c, LS R T w X w' q l (bs (opS 2)) nm A (.slice a n c) ∧ ∀ ts jj, q = .ok ts jj → n = ts.length ∧ XTs w.heap.size w' a ts 0 := by
  obtain ⟨i0, hi, hz0, hz1, hz2⟩ := info_parts (show (Tryz.prog.info? 40).map (fun i => (i.zero, i.size, i.bytes)) = some (some (.pointer none), 1, 8) by kernel_rfl)
  have HI := hid (And.intro hi (And.intro hz0 (And.intro hz1 hz2)))
  obtain ⟨q1, hq1⟩ : ∃ q1, q1 = pEnter (by' T) 10 j l := ⟨_, rfl⟩
  obtain ⟨q2, hq2⟩ : ∃ q2 : Res (List Tr), q2 = q1.bind fun _ a1 => if (tok (by' T) a1).kind = 11 then .ok [] a1 else (pExpr (by' T) f a1 (l + 1)).bind fun x a2 => pArgs (by' T) f [x] a2 (l + 1) := ⟨_, rfl⟩
  have hqq : q = q2.wn (by' T) 11 := by
    rw [hq, pList, hq2, hq1]
    cases pEnter (by' T) 10 j l <;> rfl
  have n2 : q2 ≠ .out := Res.out_wn (by rw [← hqq]; exact hro)
  have hlt := hL.hR
  have hXlt := hL.lt
  have hXl := hL.hX
  have hsz := hL.fr.size
  have x0 := hL.c0
  have y0 := hL.fz 0
  obtain ⟨W1, hW1⟩ : ∃ W1, W.setCell ⟨X, 0, none⟩ (.string ⟨#[99, 97, 108, 108]⟩) = W1 := ⟨_, rfl⟩
  have HL1 : Hid (LS R T w X W1 (.ok () j : Res Unit) l ⟨#[99, 97, 108, 108]⟩ nm A (.slice none 0 0)) := by unfold Hid; rw [← hW1]; exact hL.put0 _
  have hg1 : RgG W1 R T j l := hg.keep (by rw [← hW1]; exact heap_setCell_other _ _ _ _ (by show R ≠ X; omega))
  have hs1 : W1.heap.size = W.heap.size := by rw [← hW1]; simp [World.setCell]
  have HDP := hid (rdeep_any R j l 10 T W1 hg1 hk)
  rw [← hq1] at HDP
  have HEX := hid hE
  have HTK := hid (fun (rc : Res (List Tr)) (V : World) (h : RgW V R T rc (l + 1)) => rtake_any R (l + 1) 12 T ⟨#[44]⟩ rc V h (by decide) (by decide) rfl)
  have HWN := hid (fun (V : World) (h : RgW V R T q2 l) => rwant_any R l 11 T ⟨#[41]⟩ q2 V h (by decide) (by decide) rfl)
  have HQ := hid hqq
  have HQ2 := hid hq2
  have HN2 := hid n2
  have HSM := hid hg.small
  have HS1 := hid hs1
  clear hE hL hg hk hq hro hq1 hq2 hqq n2 hg1 hi hz0 hz1 hz2 hs1
  go_enter Tryz.func107, Tryz.ntmps107
  go_wp2_with fail
  clear hW1 x0 y0
  refine HDP.out.mono ?_
  rintro e w1 ⟨b, rfl, hf1, hm1⟩
  have HL2 := hid (HL1.out.step hf1 hm1)
  have HS2 : Hid (W.heap.size ≤ w1.heap.size) := by unfold Hid; have := hf1.size; have := HS1.out; omega
  have hcs := hm1.cases
  clear hf1 hm1 HL1 HDP
  rcases hcs with ⟨u, a1, hr, hg⟩ | ⟨e, a, hfa, hr⟩
  · have c4 := hg.h.c4
    have c2 := hg.h.c2
    have hq2 := HQ2.out
    rw [hr] at hq2
    have hq2 : q2 = if (tok (by' T) a1).kind = 11 then .ok [] a1 else (pExpr (by' T) f a1 (l + 1)).bind fun x a2 => pArgs (by' T) f [x] a2 (l + 1) := hq2
    have s11 := tok_spl (by' T) a1 11 (by decide) (by decide)
    by_cases h11 : (tok (by' T) a1).kind = 11
    · have t11 : ((bs (tok (by' T) a1).text).toList == [41]) = true := by rw [bs_list, s11.1 h11]; rfl
      rw [if_pos h11] at hq2
      have HL3 : Hid (LS R T w X w1 q2 (l + 1) ⟨#[99, 97, 108, 108]⟩ nm A (.slice none 0 0)) := HL2.out.step (Fr.refl _ _) (by rw [hq2]; exact Or.inl hg)
      have HKF : Hid (∀ ts jj, q2 = .ok ts jj → 0 = ts.length ∧ XTs w.heap.size w1 none ts 0) := fun ts jj h => by
        rw [hq2] at h
        injection h with h _
        rw [← h]
        exact ⟨rfl, trivial⟩
      generalize bs (tok (by' T) a1).text = tx at *
      clear s11 h11 hq2 hr hg HL2
      obtain ⟨d, dd, r3, hdd, s3, hX9⟩ := HL3.out.back
      have HL9 := hid hX9
      have HK9 : Hid (∀ ts jj, q2 = .ok ts jj → 0 = ts.length ∧ XTs w.heap.size (w1.setCell ⟨R, 3, none⟩ (.int .i64 dd)) none ts 0) := fun ts jj h => ⟨(HKF.out ts jj h).1, XTBs.keep (fun b hb _ => ⟨hb, heap_setCell_other _ _ _ _ (by show b ≠ R; have : w.heap.size ≤ b := hb; omega)⟩) _ ts 0 (HKF.out ts jj h).2⟩
      clear hX9
      go_wp2_with fail
      generalize w1.setCell ⟨R, 3, none⟩ (.int .i64 dd) = w8 at *
      refine (HWN.out w8 HL9.out.rm).mono ?_
      rintro e w9 ⟨rfl, hf9, hm9⟩
      have HE : Hid (∃ a n c, LS R T w X w9 q l (bs (opS 2)) nm A (.slice a n c) ∧ ∀ ts jj, q = .ok ts jj → n = ts.length ∧ XTs w.heap.size w9 a ts 0) := by
        refine ⟨none, 0, 0, ?_, fun ts jj h => ?_⟩
        · rw [HQ.out]
          exact HL9.out.step hf9 hm9
        · rw [HQ.out] at h
          obtain ⟨a', h'⟩ := Res.wn_ok h
          exact ⟨(HK9.out ts a' h').1, XTBs.keep (fun b hb hl => ⟨hb, hf9.keep (by have : w.heap.size ≤ b := hb; omega) hl⟩) _ ts 0 (HK9.out ts a' h').2⟩
      clear hf9 hm9
      go_wp2_with fail
      go_end0
      exact ⟨rfl, HE.out⟩
    · have t11 : ((bs (tok (by' T) a1).text).toList == [41]) = false := by rw [bs_list]; simp; exact fun e => h11 (s11.2 e)
      rw [if_neg h11] at hq2
      have HL3 : Hid (LS R T w X w1 (.ok [] a1 : Res (List Tr)) (l + 1) ⟨#[99, 97, 108, 108]⟩ nm A (.slice none 0 0)) := HL2.out.step (Fr.refl _ _) (Or.inl hg)
      have HG3 : Hid (∃ g, g ≤ f ∧ q2 = (pExpr (by' T) g a1 (l + 1)).bind fun x j => pArgs (by' T) g ([] ++ [x]) j (l + 1)) := ⟨f, Nat.le_refl _, hq2⟩
      have HA1 := hid hg.le
      generalize bs (tok (by' T) a1).text = tx at *
      clear s11 h11 hq2 hr hg HL2
      go_wp2_with fail
      clear c4 c2 t11
      go_loopw [4] (fun bv wr => ∃ (b : Bool) (a : Option Addr) (n c : Nat), bv = .bool b ∧ Hid (CInv R X f l T nm A w W q2 b a n c wr)) (fun bv wr => match bv with | .bool true => rgm R T wr + 1 | _ => 0)
      case atStart => exact ⟨true, none, 0, 0, rfl, HS2.out, _, HL3.out, fun _ => ⟨[], a1, rfl, RowX.nil _ _, Nat.zero_le _, HA1.out, HG3.out⟩, fun h => by cases h⟩
      case round =>
        obtain ⟨b, a, n, c, rfl, hI⟩ := hrel
        clear HL3 HG3
        obtain ⟨hsW, rc, hLS, htr, hfl⟩ := hI.out
        cases b with
        | false =>
          obtain ⟨hrc, hkf⟩ := hfl rfl
          rw [hrc] at hLS
          have HL4 := hid hLS
          have HKF := hid hkf
          clear hI hLS htr hfl hkf hsW hrc
          obtain ⟨d, dd, r3, hdd, s3, hX9⟩ := HL4.out.back
          have HL9 := hid hX9
          have HK9 : Hid (∀ ts jj, q2 = .ok ts jj → n = ts.length ∧ XTs w.heap.size (wr.setCell ⟨R, 3, none⟩ (.int .i64 dd)) a ts 0) := fun ts jj h => ⟨(HKF.out ts jj h).1, XTBs.keep (fun b hb _ => ⟨hb, heap_setCell_other _ _ _ _ (by show b ≠ R; have : w.heap.size ≤ b := hb; omega)⟩) _ ts 0 (HKF.out ts jj h).2⟩
          clear hX9
          go_wp2_with fail
          generalize wr.setCell ⟨R, 3, none⟩ (.int .i64 dd) = w8 at *
          refine (HWN.out w8 HL9.out.rm).mono ?_
          rintro e w9 ⟨rfl, hf9, hm9⟩
          have HE : Hid (∃ a n c, LS R T w X w9 q l (bs (opS 2)) nm A (.slice a n c) ∧ ∀ ts jj, q = .ok ts jj → n = ts.length ∧ XTs w.heap.size w9 a ts 0) := by
            refine ⟨a, n, c, ?_, fun ts jj h => ?_⟩
            · rw [HQ.out]
              exact HL9.out.step hf9 hm9
            · rw [HQ.out] at h
              obtain ⟨a', h'⟩ := Res.wn_ok h
              exact ⟨(HK9.out ts a' h').1, XTBs.keep (fun b hb hl => ⟨hb, hf9.keep (by have : w.heap.size ≤ b := hb; omega) hl⟩) _ ts 0 (HK9.out ts a' h').2⟩
          clear hf9 hm9
          go_wp2_with fail
          go_end0
          exact ⟨rfl, HE.out⟩
        | true =>
          obtain ⟨ts, p, rfl, hRow, hlen, hp, g, hgf, hq2⟩ := htr rfl
          clear htr hfl hI
          rcases hLS.rm.cases with ⟨ts', p', he, hg⟩ | ⟨e, a', hfa, hr⟩
          · injection he with he1 he2
            subst he1 he2
            have c4 := hg.h.c4
            have hne : pExpr (by' T) g p (l + 1) ≠ .out := Res.out_bind (by rw [← hq2]; exact HN2.out)
            have HC := hid (HEX.out g hgf _ (.ok ts p) (l + 1) wr hLS.rm hne)
            have HFX := hid ((p_fx (by' T) g).1 p (l + 1) (by rw [by_len]; exact hp))
            have HL4 := hid hLS
            have HRow := hid hRow
            have HP := hid (And.intro hlen hp)
            have HQ3 := hid hq2
            have HGF := hid hgf
            have HSW := hid hsW
            have HGM := hid hg.rgm
            have HAT := hid (tok_at (by' T) p (by rw [by_len]; exact hp))
            have HPX := hid (fun (y : Tr) (jy : Nat) (h : pExpr (by' T) g p (l + 1) = .ok y jy) => pExpr_at h (by rw [by_len]; exact hp))
            clear hLS hRow hlen hp hq2 hgf hsW hg hne
            go_wp2_with fail
            refine HC.out.mono ?_
            rintro e w4 ⟨py, rfl, hf4, hm4, ht4⟩
            have hm4 : RgW w4 R T (pExpr (by' T) g p (l + 1)) (l + 1) := hm4
            have ht4 : ∀ t j, pExpr (by' T) g p (l + 1) = .ok t j → XT wr.heap.size w4 t (.pointer py) := ht4
            obtain ⟨rc4, hrc4⟩ : ∃ rc4 : Res (List Tr), rc4 = (pExpr (by' T) g p (l + 1)).bind fun y j => .ok (ts ++ [y]) j := ⟨_, rfl⟩
            have HL5 : Hid (LS R T w X w4 rc4 (l + 1) ⟨#[99, 97, 108, 108]⟩ nm A (.slice a n c)) := HL4.out.step hf4 (by rw [hrc4]; exact hm4.map _)
            have hbR : R < W.heap.size := by omega
            have hRow4 := HRow.out.fr hf4 hbR
            have hsW4 : W.heap.size ≤ w4.heap.size := Nat.le_trans HSW.out hf4.size
            obtain ⟨vals, hown4, hel4⟩ := hRow4
            have hgl : ∀ k, (Value.slice a n c).ownBlock = some k → W.heap.size ≤ k ∧ k < wr.heap.size := fun k e => by
              obtain ⟨vals3, h7, _⟩ := HRow.out
              exact h7.lt k e
            have hln : ts.length = n := by
              obtain ⟨a', c', e⟩ := HRow.out.form
              injection e with _ e _
              exact e.symm
            rw [hln] at hown4
            obtain ⟨WA, hWA⟩ : ∃ WA, WA = w4.alloc (.cells #[.pointer py] 40) := ⟨_, rfl⟩
            have hbA : Below w4.heap.size w4 WA := by rw [hWA]; exact (Below.refl _ _).alloc (Nat.le_refl _) _
            have hownA : WA.ownsRow W.heap.size 40 1 (.slice a n c) n vals := by rw [hWA]; exact hown4.alloc _
            have HLA : Hid (LS R T w X WA rc4 (l + 1) ⟨#[99, 97, 108, 108]⟩ nm A (.slice a n c)) := by unfold Hid; rw [hWA]; exact HL5.out.alloc _
            have hn4 : n ≤ 4000 := by
              have h7 := HP.out
              have h8 := HSM.out
              omega
            have HTR : Hid (∀ t j, pExpr (by' T) g p (l + 1) = .ok t j → XTB (fun b => W.heap.size ≤ b ∧ some b ≠ (Value.slice a n c).ownBlock) WA t (.pointer py)) := fun t j h => XTB.keep (fun b hb hl => by
              have hb' : wr.heap.size ≤ b := hb
              have := HSW.out
              exact ⟨⟨by omega, fun e => by have := hgl b e.symm; omega⟩, hbA.block b hl⟩) _ _ (ht4 t j h)
            have HEL : Hid (∀ (i : Nat) t, ts[i]? = some t → ∃ u, vals[i]? = some u ∧ XTB (fun b => W.heap.size ≤ b ∧ some b ≠ (Value.slice a n c).ownBlock) WA t u) := fun i t ht => by
              obtain ⟨u, k1, k2⟩ := hel4 i t ht
              exact ⟨u, k1, XTB.keep (fun b hB2 hl2 => ⟨hB2, hbA.block b hl2⟩) _ _ k2⟩
            have HGA : Hid (∀ w5, WA.grownBy w5 (Value.slice a n c).ownBlock → LS R T w X w5 rc4 (l + 1) ⟨#[99, 97, 108, 108]⟩ nm A (.slice a n c)) := fun w5 hgr => by
              have hX' : some X ≠ (Value.slice a n c).ownBlock := fun e => by have := (hgl X e.symm).1; omega
              have hR' : some R ≠ (Value.slice a n c).ownBlock := fun e => by have := (hgl R e.symm).1; omega
              exact ⟨HLA.out.fr.grown hgr (fun k e => by have := (hgl k e).1; omega) hlt, HLA.out.rm.keep (hgr.block R HLA.out.rm.lt hR'), (hgr.block X HLA.out.lt hX').trans HLA.out.xb, HLA.out.hX, HLA.out.hR⟩
            have HOWN := hid hownA
            have HN4 := hid hn4
            have HS4 : Hid (W.heap.size ≤ w4.heap.size) := hsW4
            have HLN := hid hln
            have HRC := hid hrc4
            have HSA : Hid (w4.heap.size ≤ WA.heap.size) := hbA.size
            have x4 := HL5.out.c4
            have HWA := hid hWA
            clear hf4 hm4 ht4 hown4 hel4 hgl hln hbA hownA hn4 hsW4 hrc4 HC hWA
            go_wp2_with (at_builtin; refine wpList_append_own_at _ rfl _ _ 95 rfl W.heap.size 40 i0 (.pointer none) 1 8 Tryz.underlying95 HI.out.1 HI.out.2.1 HI.out.2.2.1 HI.out.2.2.2 rfl (by decide) (.slice a n c) n vals rfl (by rw [← HWA.out]; exact HOWN.out) ⟨w4.heap.size, 0, none⟩ 1 1 [.pointer py] rfl rfl (cell_one_new _ _ _) (by simp [Value.oneCell']) (by have := HN4.out; unfold maxLen; omega) (by have := HN4.out; omega) (by have := HS4.out; simp; omega) ?_; intro v' w5 hown2 hgrow _ hwhere; rw [← HWA.out] at hgrow hwhere; obtain ⟨a2, c2, hv'⟩ := ownsRow_form hown2; subst hv'; have hL6 := HGA.out w5 hgrow; have x5 := hL6.c4; have y5 := hL6.fz 4)
            have HL6 := hid (hL6.put4 (.slice a2 (n + 1) c2))
            have hln := HLN.out
            have hown2' : w5.ownsRow W.heap.size 40 1 (.slice a2 (n + 1) c2) (ts.length + 1) (vals ++ [.pointer py]) := by rw [hln]; exact hown2
            have HRow5 : Hid (∀ t j, pExpr (by' T) g p (l + 1) = .ok t j → RowX W.heap.size (w5.setCell ⟨X, 4, none⟩ (.slice a2 (n + 1) c2)) (.slice a2 (n + 1) c2) (ts ++ [t])) := fun t j h => by
              have h1 : RowX W.heap.size w5 (.slice a2 (n + 1) c2) (ts ++ [t]) := RowX.push (by rw [hln]; exact HOWN.out) HEL.out (HTR.out t j h) hown2' hgrow hwhere
              obtain ⟨vals2, k1, k2⟩ := h1
              have hfx : Fr X w5 (w5.setCell ⟨X, 4, none⟩ (.slice a2 (n + 1) c2)) := (Fr.refl X w5).set 4 _
              exact ⟨vals2, ownsRow_fr k1 hfx hXlt, fun i t ht => by
                obtain ⟨u, k3, k4⟩ := k2 i t ht
                exact ⟨u, k3, XTB.keep (fun b hb hl => ⟨hb, hfx.2 b hl (by have := hb.1; omega)⟩) _ _ k4⟩⟩
            have HSW5 : Hid (W.heap.size ≤ (w5.setCell ⟨X, 4, none⟩ (.slice a2 (n + 1) c2)).heap.size) := by
              unfold Hid
              have k1 := hgrow.size
              have k2 := HSA.out
              have k3 := HS4.out
              have k4 := ((Fr.refl X w5).set 4 (.slice a2 (n + 1) c2)).size
              omega
            generalize w5.setCell ⟨X, 4, none⟩ (.slice a2 (n + 1) c2) = w6 at *
            clear hown2 hgrow hwhere hL6 x5 y5 hown2' hln x4
            refine (HTK.out rc4 w6 HL6.out.rm).mono ?_
            rintro e w7 ⟨hf7, ⟨rfl, ts', j', hr, hk12, hm7⟩ | ⟨rfl, hm7, hk12⟩⟩
            · have hLS7 := HL6.out.step hf7 hm7
              have hbR : R < W.heap.size := by omega
              have hr0 := HRC.out
              rw [hr] at hr0
              obtain ⟨y, jy, hy, hy2⟩ := Res.bind_ok hr0.symm
              injection hy2 with hy2 hy3
              subst hy2 hy3
              have hRow7 := (HRow5.out y jy hy).fr hf7 hbR
              have hq3 := HQ3.out
              rw [hy] at hq3
              have hq3 : q2 = pArgs (by' T) g (ts ++ [y]) jy (l + 1) := hq3
              have hfx := HFX.out
              rw [hy] at hfx
              have hfx1 := hfx.1
              have hfx2 := hfx.2
              rw [by_len] at hfx2
              have hta := tok_at (by' T) jy (by rw [by_len]; exact hfx2)
              rw [by_len] at hta
              have hnx := hta.2.2.2.1 (by omega)
              have hg7 : ∃ g', g' ≤ f ∧ q2 = (pExpr (by' T) g' (tok (by' T) jy).nx (l + 1)).bind fun x j => pArgs (by' T) g' (ts ++ [y] ++ [x]) j (l + 1) := by
                cases g with
                | zero => rw [pArgs] at hq3; exact absurd hq3 HN2.out
                | succ g' => exact ⟨g', by have := HGF.out; omega, by rw [pArgs, if_pos hk12] at hq3; exact hq3⟩
              have HI7 : Hid (CInv R X f l T nm A w W q2 true a2 (n + 1) c2 w7) := ⟨Nat.le_trans HSW5.out hf7.size, _, hLS7, fun _ => ⟨_, _, rfl, hRow7, by have := HP.out.1; rw [List.length_append]; show ts.length + 1 ≤ _; omega, hta.2.1, hg7⟩, fun h => by cases h⟩
              have HM7 : Hid (rgm R T w7 < T.size + 1 - (tok (by' T) p).at') := rgm_lt hm7 (fun _ j h => by
                injection h with _ h
                have h1 := hta.1
                have h2 := hta.2.1
                have h3 : jy ≤ (tok (by' T) jy).at' := hta.1
                have h4 := hfx1
                have h5 := HAT.out.2.1
                have h6 := HPX.out _ _ hy
                subst h
                omega) (by have h1 := HAT.out.2.2.1; rw [by_len] at h1; exact h1)
              clear hf7 hr hk12 hm7 hLS7 hRow7 hq3 hfx hfx1 hfx2 hta hnx hg7 hr0 hy
              go_wp2_with fail
              go_roundw
              case rel => exact ⟨true, _, _, _, rfl, HI7⟩
              case measure =>
                have h1 := HM7.out
                have h2 := HGM.out
                simp only
                omega
            · have hqe : q2 = rc4 := by
                rw [HQ3.out, HRC.out]
                cases hc : pExpr (by' T) g p (l + 1) with
                | out => rfl
                | bad e a => rfl
                | ok y jy =>
                  show pArgs (by' T) g (ts ++ [y]) jy (l + 1) = .ok (ts ++ [y]) jy
                  have hq3 := HQ3.out
                  rw [hc] at hq3
                  have hq3 : q2 = pArgs (by' T) g (ts ++ [y]) jy (l + 1) := hq3
                  cases g with
                  | zero => rw [pArgs] at hq3; exact absurd hq3 HN2.out
                  | succ g' =>
                    rw [pArgs, if_neg]
                    exact hk12 (ts ++ [y]) jy (by rw [HRC.out, hc]; rfl)
              have hbR : R < W.heap.size := by omega
              have HI7 : Hid (CInv R X f l T nm A w W q2 false a2 (n + 1) c2 w7) := ⟨Nat.le_trans HSW5.out hf7.size, q2, HL6.out.step hf7 (by rw [hqe]; exact hm7), fun h => (nomatch h), fun _ => ⟨rfl, fun ts2 jj h => by
                    rw [hqe, HRC.out] at h
                    obtain ⟨y, jy, hy, hy2⟩ := Res.bind_ok h
                    injection hy2 with hy2 _
                    subst hy2
                    have hR7 := (HRow5.out y jy hy).fr hf7 hbR
                    obtain ⟨a', c', e1, e2⟩ := hR7.vl
                    injection e1 with e3 e4 _
                    subst e3
                    exact ⟨e4, XTBs.keep (fun b hb _ => ⟨Nat.le_trans hsz hb, rfl⟩) _ _ 0 e2⟩⟩⟩
              clear hf7 hm7 hk12 hqe
              go_wp2_with fail
              go_roundw
              case rel => exact ⟨false, _, _, _, rfl, HI7⟩
              case measure => simp only; omega
          · have hq5 : q2 = .bad e a' := by
              rcases hr with h | ⟨x', j', h, h0, rfl, rfl⟩
              · cases h
              · injection h with _ h
                subst h
                rw [hq2]
                rcases pExpr_zero (f := g) (l := l + 1) h0 with h1 | h1
                · exact absurd (by rw [hq2, h1]; rfl) HN2.out
                · rw [h1]; rfl
            obtain ⟨he, at', tk, dp, hR⟩ := hfa
            have c4 := hR.c4
            have q4 : ((e : Int) == 0) = false := by simp; omega
            have HL4 : Hid (LS R T w X wr q2 (l + 1) ⟨#[99, 97, 108, 108]⟩ nm A (.slice a n c)) := hLS.step (Fr.refl _ _) (by rw [hq5]; exact ⟨he, at', tk, dp, hR⟩)
            have HKF : Hid (∀ ts jj, q2 = .ok ts jj → n = ts.length ∧ XTs w.heap.size wr a ts 0) := fun ts jj h => by rw [hq5] at h; cases h
            clear hLS hRow hlen hp hq2 hgf hsW hR he hr hq5
            obtain ⟨d, dd, r3, hdd, s3, hX9⟩ := HL4.out.back
            have HL9 := hid hX9
            have HK9 : Hid (∀ ts jj, q2 = .ok ts jj → n = ts.length ∧ XTs w.heap.size (wr.setCell ⟨R, 3, none⟩ (.int .i64 dd)) a ts 0) := fun ts jj h => ⟨(HKF.out ts jj h).1, XTBs.keep (fun b hb _ => ⟨hb, heap_setCell_other _ _ _ _ (by show b ≠ R; have : w.heap.size ≤ b := hb; omega)⟩) _ ts 0 (HKF.out ts jj h).2⟩
            clear hX9
            go_wp2_with fail
            generalize wr.setCell ⟨R, 3, none⟩ (.int .i64 dd) = w8 at *
            refine (HWN.out w8 HL9.out.rm).mono ?_
            rintro e w9 ⟨rfl, hf9, hm9⟩
            have HE : Hid (∃ a n c, LS R T w X w9 q l (bs (opS 2)) nm A (.slice a n c) ∧ ∀ ts jj, q = .ok ts jj → n = ts.length ∧ XTs w.heap.size w9 a ts 0) := by
              refine ⟨a, n, c, ?_, fun ts jj h => ?_⟩
              · rw [HQ.out]
                exact HL9.out.step hf9 hm9
              · rw [HQ.out] at h
                obtain ⟨a', h'⟩ := Res.wn_ok h
                exact ⟨(HK9.out ts a' h').1, XTBs.keep (fun b hb hl => ⟨hb, hf9.keep (by have : w.heap.size ≤ b := hb; omega) hl⟩) _ ts 0 (HK9.out ts a' h').2⟩
            clear hf9 hm9
            go_wp2_with fail
            go_end0
            exact ⟨rfl, HE.out⟩
  · have hq5 : q2 = .bad e a := by
      rw [HQ2.out]
      rcases hr with h | ⟨x', j', h, h0, rfl, rfl⟩
      · rw [h]; rfl
      · have hq2 := HQ2.out
        rw [h] at hq2 ⊢
        have hq2 : q2 = if (tok (by' T) j').kind = 11 then .ok [] j' else (pExpr (by' T) f j' (l + 1)).bind fun x a2 => pArgs (by' T) f [x] a2 (l + 1) := hq2
        show (if (tok (by' T) j').kind = 11 then _ else _) = _
        rw [if_neg (by omega)] at hq2 ⊢
        rcases pExpr_zero (f := f) (l := l + 1) h0 with h1 | h1
        · exact absurd (by rw [hq2, h1]; rfl) HN2.out
        · rw [h1]; rfl
    obtain ⟨he, at', tk, dp, hR⟩ := hfa
    have c4 := hR.c4
    have q4 : ((e : Int) == 0) = false := by simp; omega
    have HL3 : Hid (LS R T w X w1 q2 (l + 1) ⟨#[99, 97, 108, 108]⟩ nm A (.slice none 0 0)) := HL2.out.step (Fr.refl _ _) (by rw [hq5]; exact ⟨he, at', tk, dp, hR⟩)
    have HKF : Hid (∀ ts jj, q2 = .ok ts jj → 0 = ts.length ∧ XTs w.heap.size w1 none ts 0) := fun ts jj h => by rw [hq5] at h; cases h
    clear hR he hr hq5 HL2
    obtain ⟨d, dd, r3, hdd, s3, hX9⟩ := HL3.out.back
    have HL9 := hid hX9
    have HK9 : Hid (∀ ts jj, q2 = .ok ts jj → 0 = ts.length ∧ XTs w.heap.size (w1.setCell ⟨R, 3, none⟩ (.int .i64 dd)) none ts 0) := fun ts jj h => ⟨(HKF.out ts jj h).1, XTBs.keep (fun b hb _ => ⟨hb, heap_setCell_other _ _ _ _ (by show b ≠ R; have : w.heap.size ≤ b := hb; omega)⟩) _ ts 0 (HKF.out ts jj h).2⟩
    clear hX9
    go_wp2_with fail
    generalize w1.setCell ⟨R, 3, none⟩ (.int .i64 dd) = w8 at *
    refine (HWN.out w8 HL9.out.rm).mono ?_
    rintro e w9 ⟨rfl, hf9, hm9⟩
    have HE : Hid (∃ a n c, LS R T w X w9 q l (bs (opS 2)) nm A (.slice a n c) ∧ ∀ ts jj, q = .ok ts jj → n = ts.length ∧ XTs w.heap.size w9 a ts 0) := by
      refine ⟨none, 0, 0, ?_, fun ts jj h => ?_⟩
      · rw [HQ.out]
        exact HL9.out.step hf9 hm9
      · rw [HQ.out] at h
        obtain ⟨a', h'⟩ := Res.wn_ok h
        exact ⟨(HK9.out ts a' h').1, XTBs.keep (fun b hb hl => ⟨hb, hf9.keep (by have : w.heap.size ≤ b := hb; omega) hl⟩) _ ts 0 (HK9.out ts a' h').2⟩
    clear hf9 hm9
    go_wp2_with fail
    go_end0
    exact ⟨rfl, HE.out⟩

end Go.Proofs.YthemehdcakimgaiGreatDoor
