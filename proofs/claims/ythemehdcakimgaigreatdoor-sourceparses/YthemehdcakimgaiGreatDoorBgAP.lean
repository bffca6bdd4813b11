/- The reference of programs as text: product. The reference of programs as text: parts of a call in a row. -/
import Derived.Test.YthemehdcakimgaiGreatDoorBgAO
import Derived.Test.YthemehdcakimgaiGreatDoorBgAF
namespace Go.Proofs.YthemehdcakimgaiGreatDoor
open Go.RowKit

set_option maxRecDepth 100000 in
set_option maxHeartbeats 2000000 in
theorem rproduct_any (R : Nat) (T : ByteArray) (f : Nat) (hP : ∀ g, g ≤ f → PRT R T g) : PRD R T (f + 1) := fun α r l w hm hro => by
  have hlt := hm.lt
  obtain ⟨q, hq⟩ : ∃ q, q = r.bind fun _ j => pProd (by' T) (f + 1) j l := ⟨_, rfl⟩
  rw [← hq] at hro ⊢
  obtain ⟨q1, hq1⟩ : ∃ q1, q1 = r.bind fun _ j => pPart (by' T) f j l := ⟨_, rfl⟩
  have hqq : q = q1.bind fun x j => pProdL (by' T) f x j l := by
    rw [hq, hq1]
    cases r with
    | out => rfl
    | bad e a => rfl
    | ok x j =>
      show pProd (by' T) (f + 1) j l = (pPart (by' T) f j l).bind _
      rw [pProd]
  have n1 : q1 ≠ .out := Res.out_bind (by rw [← hqq]; exact hro)
  have HC := hid (hP f (Nat.le_refl _) α r l w hm (by rw [← hq1]; exact n1))
  rw [← hq1] at HC
  have HP := hid (fun (g : Nat) (hg : g ≤ f) (x : Tr) (a : Nat) (W : World) (hm : RgW W R T (.ok x a : Res Tr) l) (hn : pPart (by' T) g a l ≠ .out) => hP g hg Tr (.ok x a) l W hm hn)
  have HQQ := hid hqq
  have HRO := hid hro
  have HON := hid (fun (j : Nat) (W : World) (h : RgG W R T j l) => ron_any R j l T W h)
  clear hm hro hq hq1 hqq n1 hP
  go_enter Tryz.func79, Tryz.ntmps79
  go_wp2_with fail
  refine HC.out.mono ?_
  rintro e w1 ⟨p1, rfl, hf1, hm1, ht1⟩
  have HF1 := hid hf1
  have HM1 := hid hm1
  have HT1 := hid ht1
  clear hf1 hm1 ht1 HC
  go_wp2_with fail
  go_loopw [3] (fun v wr => ∃ (p : Option Addr) (rc : Res Tr), v = .pointer p ∧ Hid (Fr R w wr) ∧ Hid (RgW wr R T rc l) ∧ Hid (∀ t j, rc = .ok t j → XT w.heap.size wr t (.pointer p)) ∧ Hid (∃ g, g ≤ f ∧ q = rc.bind fun x j => pProdL (by' T) g x j l)) (fun _ wr => rgm R T wr)
  case atStart => exact ⟨_, _, rfl, HF1, HM1, HT1, f, Nat.le_refl _, HQQ.out⟩
  case round =>
    obtain ⟨p, rc, rfl, hF, hM, hT, hG⟩ := hrel
    clear HF1 HM1 HT1 HQQ
    rcases hM.out.cases with ⟨x, j, hr, hg⟩ | ⟨e, a, hfa, hr⟩
    · have c4 := hg.h.c4
      have c2 := hg.h.c2
      obtain ⟨g, hgf, hq2⟩ := hG.out
      rw [hr] at hq2
      have hq2 : q = pProdL (by' T) g x j l := hq2
      have hgx : ∃ g', g' + 1 ≤ f ∧ q = pProdL (by' T) (g' + 1) x j l := by
        cases g with
        | zero => rw [pProdL] at hq2; exact absurd hq2 HRO.out
        | succ g' => exact ⟨g', hgf, hq2⟩
      obtain ⟨g', hgf', hq3⟩ := hgx
      rw [pProdL] at hq3
      have HX := hid (hT.out x j hr)
      have HGM := hid (hg.rgm)
      have s1 := tok_spl (by' T) j 18 (by decide) (by decide)
      have s2 := tok_spl (by' T) j 19 (by decide) (by decide)
      have hta := tok_at (by' T) j (by rw [by_len]; exact hg.le)
      rw [by_len] at hta
      have HTA := hid hta
      have HO := hid (HON.out j wr hg)
      have HG' := hid hgf'
      clear hq2 hG hgf hta
      by_cases h1 : (tok (by' T) j).kind = 18
      · have t1 : ((bs (tok (by' T) j).text).toList == [42]) = true := by rw [bs_list, s1.1 h1]; rfl
        rw [if_pos h1] at hq3
        have hne : pPart (by' T) g' (tok (by' T) j).nx l ≠ .out := Res.out_bind (by rw [← hq3]; exact HRO.out)
        have HOP : Hid (bs (tok (by' T) j).text = bs (opS 6)) := by unfold Hid; rw [s1.1 h1]; rfl
        have HQ3 := hid hq3
        have HNX : Hid ((tok (by' T) j).at' < (tok (by' T) j).nx) := HTA.out.2.2.2.1 (by omega)
        have HFX := hid ((p_fx (by' T) g').2.2.2.2.2.1 (tok (by' T) j).nx l (by rw [by_len]; exact HTA.out.2.1))
        generalize bs (tok (by' T) j).text = tx at *
        generalize (tok (by' T) j).nx = nx at *
        clear s1 s2 h1 hq3 hg hr
        go_wp2_with fail
        refine HO.out.mono ?_
        rintro e w2 ⟨rfl, hf2, hm2⟩
        have HF2 := hid (hF.out.trans hf2)
        have HX2 := hid (HX.out.fr hf2 hlt)
        have HC2 := hid (HP.out g' (by have := HG'.out; omega) x nx w2 (hm2.of rfl) hne)
        have HSZ2 := hid HF2.out.size
        clear hf2 hm2 HO
        go_wp2_with fail
        refine HC2.out.mono ?_
        rintro e w3 ⟨p3, rfl, hf3, hm3, ht3⟩
        have hm3 : RgW w3 R T (pPart (by' T) g' nx l) l := hm3
        have ht3 : ∀ t j, pPart (by' T) g' nx l = .ok t j → XT w2.heap.size w3 t (.pointer p3) := ht3
        obtain ⟨rn, hrn⟩ : ∃ rn : Res Tr, rn = (pPart (by' T) g' nx l).bind fun y j => .ok (.node 6 [] 0 0 [x, y]) j := ⟨_, rfl⟩
        have hXR := mk_two (k := 6) (op := tx) (q := rn) (p1 := p) (p2 := p3) hlt HOP.out (by decide) (HF2.out.trans hf3) (by rw [hrn]; exact hm3.map _) (fun t jj h => by
          rw [hrn] at h
          obtain ⟨y, a3, h3, h⟩ := Res.bind_ok h
          injection h with h _
          exact ⟨x, y, h.symm, HX2.out.fr hf3 hlt, (ht3 _ _ h3).mono HSZ2.out⟩)
        have HXR := hid hXR
        have HQN : Hid (∃ g, g ≤ f ∧ q = rn.bind fun x j => pProdL (by' T) g x j l) := ⟨g', by have := HG'.out; omega, by
          rw [HQ3.out, hrn]
          cases pPart (by' T) g' nx l <;> rfl⟩
        have HPR : Hid (∀ y j, rn = .ok y j → nx ≤ j ∧ j ≤ T.size) := fun y j h => by
          rw [hrn] at h
          obtain ⟨y', a3, h3, h⟩ := Res.bind_ok h
          injection h with _ h
          subst h
          have k3 := HFX.out
          rw [h3] at k3
          have := k3.1
          have := k3.2
          rw [by_len] at this
          omega
        clear hf3 hm3 ht3 HC2 hXR hrn hne
        go_wp2_with fail
        go_roundw
        case rel =>
          obtain ⟨p4, e4, h1, h2, h3⟩ := HXR.out
          injection e4 with e4
          injection e4 with e4
          exact ⟨_, rn, rfl, h1, h2, by rw [e4]; exact h3, HQN.out⟩
        case measure =>
          obtain ⟨p4, e4, h1, h2, h3⟩ := HXR.out
          rw [HGM.out]
          exact rgm_lt h2 (fun y j h => by have := HPR.out y j h; have := HNX.out; omega) (by have := HTA.out; omega)
      · by_cases h2 : (tok (by' T) j).kind = 19
        · have t1 : ((bs (tok (by' T) j).text).toList == [42]) = false := by rw [bs_list, s2.1 h2]; rfl
          have t2 : ((bs (tok (by' T) j).text).toList == [47]) = true := by rw [bs_list, s2.1 h2]; rfl
          rw [if_neg h1, if_pos h2] at hq3
          have hne : pPart (by' T) g' (tok (by' T) j).nx l ≠ .out := Res.out_bind (by rw [← hq3]; exact HRO.out)
          have HOP : Hid (bs (tok (by' T) j).text = bs (opS 7)) := by unfold Hid; rw [s2.1 h2]; rfl
          have HQ3 := hid hq3
          have HNX : Hid ((tok (by' T) j).at' < (tok (by' T) j).nx) := HTA.out.2.2.2.1 (by omega)
          have HFX := hid ((p_fx (by' T) g').2.2.2.2.2.1 (tok (by' T) j).nx l (by rw [by_len]; exact HTA.out.2.1))
          generalize bs (tok (by' T) j).text = tx at *
          generalize (tok (by' T) j).nx = nx at *
          clear s1 s2 h1 h2 hq3 hg hr
          go_wp2_with fail
          refine HO.out.mono ?_
          rintro e w2 ⟨rfl, hf2, hm2⟩
          have HF2 := hid (hF.out.trans hf2)
          have HX2 := hid (HX.out.fr hf2 hlt)
          have HC2 := hid (HP.out g' (by have := HG'.out; omega) x nx w2 (hm2.of rfl) hne)
          have HSZ2 := hid HF2.out.size
          clear hf2 hm2 HO
          go_wp2_with fail
          refine HC2.out.mono ?_
          rintro e w3 ⟨p3, rfl, hf3, hm3, ht3⟩
          have hm3 : RgW w3 R T (pPart (by' T) g' nx l) l := hm3
          have ht3 : ∀ t j, pPart (by' T) g' nx l = .ok t j → XT w2.heap.size w3 t (.pointer p3) := ht3
          obtain ⟨rn, hrn⟩ : ∃ rn : Res Tr, rn = (pPart (by' T) g' nx l).bind fun y j => .ok (.node 7 [] 0 0 [x, y]) j := ⟨_, rfl⟩
          have hXR := mk_two (k := 7) (op := tx) (q := rn) (p1 := p) (p2 := p3) hlt HOP.out (by decide) (HF2.out.trans hf3) (by rw [hrn]; exact hm3.map _) (fun t jj h => by
            rw [hrn] at h
            obtain ⟨y, a3, h3, h⟩ := Res.bind_ok h
            injection h with h _
            exact ⟨x, y, h.symm, HX2.out.fr hf3 hlt, (ht3 _ _ h3).mono HSZ2.out⟩)
          have HXR := hid hXR
          have HQN : Hid (∃ g, g ≤ f ∧ q = rn.bind fun x j => pProdL (by' T) g x j l) := ⟨g', by have := HG'.out; omega, by
            rw [HQ3.out, hrn]
            cases pPart (by' T) g' nx l <;> rfl⟩
          have HPR : Hid (∀ y j, rn = .ok y j → nx ≤ j ∧ j ≤ T.size) := fun y j h => by
            rw [hrn] at h
            obtain ⟨y', a3, h3, h⟩ := Res.bind_ok h
            injection h with _ h
            subst h
            have k3 := HFX.out
            rw [h3] at k3
            have := k3.1
            have := k3.2
            rw [by_len] at this
            omega
          clear hf3 hm3 ht3 HC2 hXR hrn hne
          go_wp2_with fail
          go_roundw
          case rel =>
            obtain ⟨p4, e4, h1, h2, h3⟩ := HXR.out
            injection e4 with e4
            injection e4 with e4
            exact ⟨_, rn, rfl, h1, h2, by rw [e4]; exact h3, HQN.out⟩
          case measure =>
            obtain ⟨p4, e4, h1, h2, h3⟩ := HXR.out
            rw [HGM.out]
            exact rgm_lt h2 (fun y j h => by have := HPR.out y j h; have := HNX.out; omega) (by have := HTA.out; omega)
        · have t1 : ((bs (tok (by' T) j).text).toList == [42]) = false := by rw [bs_list]; simp; exact fun e => h1 (s1.2 e)
          have t2 : ((bs (tok (by' T) j).text).toList == [47]) = false := by rw [bs_list]; simp; exact fun e => h2 (s2.2 e)
          rw [if_neg h1, if_neg h2] at hq3
          have HE : Hid (XR R T q l w (.returned (.pointer p)) wr) := ⟨_, rfl, hF.out, by rw [hq3, ← hr]; exact hM.out, fun t jj h => hT.out t jj (by rw [hr, ← hq3]; exact h)⟩
          generalize bs (tok (by' T) j).text = tx at *
          clear s1 s2 h1 h2 hq3 hg hr
          go_wp2_with fail
          go_ret
          exact HE.out
    · obtain ⟨g, hgf, hq2⟩ := hG.out
      have hqb : q = rc := by
        rcases hr with h1 | ⟨x, j, h1, h0, rfl, rfl⟩
        · rw [hq2, h1]; rfl
        · rw [h1] at hq2 ⊢
          have hq2 : q = pProdL (by' T) g x j l := hq2
          cases g with
          | zero => rw [pProdL] at hq2; exact absurd hq2 HRO.out
          | succ g => rw [hq2, pProdL, if_neg (by omega), if_neg (by omega)]
      obtain ⟨he, at', tk, dp, hR⟩ := hfa
      have c4 := hR.c4
      have q4 : ((e : Int) == 0) = false := by simp; omega
      have HE : Hid (XR R T q l w (.returned (.pointer p)) wr) := ⟨_, rfl, hF.out, by rw [hqb]; exact hM.out, fun t jj h => hT.out t jj (by rw [← hqb]; exact h)⟩
      clear hr hR he hq2 hqb hgf
      go_wp2_with fail
      go_ret
      exact HE.out

end Go.Proofs.YthemehdcakimgaiGreatDoor

namespace Go.Proofs.YthemehdcakimgaiGreatDoor
open Go.RowKit

/-- expressions in a row of the call's own -/
def RowX (base : Nat) (w : World) (v : Value) (ts : List Tr) : Prop := ∃ vals : List Value, w.ownsRow base 40 1 v ts.length vals ∧ ∀ (i : Nat) t, ts[i]? = some t → ∃ u, vals[i]? = some u ∧ XTB (fun b => base ≤ b ∧ some b ≠ v.ownBlock) w t u
theorem RowX.fr {R base : Nat} {w w' : World} {v : Value} {ts : List Tr} (h : RowX base w v ts) (f : Fr R w w') (hb : R < base) : RowX base w' v ts := by
  obtain ⟨vals, h1, h2⟩ := h
  refine ⟨vals, ownsRow_fr h1 f hb, fun i t ht => ?_⟩
  obtain ⟨u, h3, h4⟩ := h2 i t ht
  exact ⟨u, h3, XTB.keep (fun b hB hl => ⟨hB, f.2 b hl (by omega)⟩) t u h4⟩
theorem RowX.nil (base : Nat) (w : World) : RowX base w (.slice none 0 0) [] := ⟨[], World.ownsRow_nil _ _ _ _, fun i t ht => by simp at ht⟩
theorem RowX.form {base : Nat} {w : World} {v : Value} {ts : List Tr} (h : RowX base w v ts) : ∃ a c, v = .slice a ts.length c := by
  obtain ⟨vals, h1, _⟩ := h
  rcases h1.2 with ⟨rfl, h0⟩ | ⟨g, cap, cur, rfl, _⟩
  · exact ⟨none, 0, by rw [h0]⟩
  · exact ⟨_, _, rfl⟩
/-- one more -/
theorem RowX.push {base : Nat} {W w2 : World} {v v' : Value} {ts : List Tr} {t : Tr} {u : Value} {vals : List Value} (h1 : W.ownsRow base 40 1 v ts.length vals) (h2 : ∀ (i : Nat) t, ts[i]? = some t → ∃ u, vals[i]? = some u ∧ XTB (fun b => base ≤ b ∧ some b ≠ v.ownBlock) W t u)
    (hu : XTB (fun b => base ≤ b ∧ some b ≠ v.ownBlock) W t u) (ho : w2.ownsRow base 40 1 v' (ts.length + 1) (vals ++ [u])) (hg : W.grownBy w2 v.ownBlock) (hw : v'.ownBlock = v.ownBlock ∨ v'.ownBlock = some W.heap.size) : RowX base w2 v' (ts ++ [t]) := by
  have hk : ∀ b, (base ≤ b ∧ some b ≠ v.ownBlock) → b < W.heap.size → (base ≤ b ∧ some b ≠ v'.ownBlock) ∧ w2.heap[b]? = W.heap[b]? := fun b hB hl => by
    refine ⟨⟨hB.1, ?_⟩, hg.block b hl hB.2⟩
    rcases hw with e | e
    · rw [e]; exact hB.2
    · rw [e]; intro e2; injection e2; omega
  have hlen : vals.length = ts.length := by have := h1.1; omega
  refine ⟨vals ++ [u], by rw [List.length_append]; exact ho, fun i x hx => ?_⟩
  rcases Nat.lt_or_ge i ts.length with hi | hi
  · rw [List.getElem?_append_left hi] at hx
    obtain ⟨y, h3, h4⟩ := h2 i x hx
    exact ⟨y, by rw [List.getElem?_append_left (by omega)]; exact h3, XTB.keep hk x y h4⟩
  · have hi2 : i = ts.length := by
      have : i < (ts ++ [t]).length := (List.getElem?_eq_some_iff.1 hx).1
      simp at this
      omega
    subst hi2
    simp at hx
    subst hx
    exact ⟨u, by rw [← hlen]; simp, XTB.keep hk t u hu⟩
/-- what list gives -/
def VLX (lo : Nat) : World → Value → List Tr → Prop := fun w v ts => ∃ a c, v = .slice a ts.length c ∧ XTs lo w a ts 0
theorem RowX.vl {base : Nat} {w : World} {v : Value} {ts : List Tr} (h : RowX base w v ts) : VLX base w v ts := by
  obtain ⟨vals, h1, h2⟩ := h
  rcases h1.2 with ⟨rfl, h0⟩ | ⟨g, cap, cur, rfl, hbs, _⟩
  · obtain rfl : ts = [] := List.length_eq_zero_iff.1 h0
    exact ⟨none, 0, rfl, trivial⟩
  · refine ⟨_, _, rfl, XTBs_of hbs ts 0 fun j hj => ?_⟩
    obtain ⟨u, h3, h4⟩ := h2 j ts[j] (by simp [hj])
    have h5 := h1.cells (g := g) rfl j u h3
    have hadd : (⟨g, 0, none⟩ : Addr).add j = ⟨g, 0 + j, none⟩ := by unfold Addr.add; split <;> simp_all
    rw [hadd] at h5
    refine ⟨u, h5, fun t ht => ?_⟩
    simp [hj] at ht
    subst ht
    exact XTB.keep (fun b hB _ => ⟨hB.1, rfl⟩) _ _ h4

end Go.Proofs.YthemehdcakimgaiGreatDoor
