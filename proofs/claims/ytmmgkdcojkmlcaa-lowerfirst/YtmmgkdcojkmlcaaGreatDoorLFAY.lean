/- The reference of programs as text: the names of a text. Package source: main. Package source: Eval. Package source: Parse, as laws ask for it. Package source: Parse and Eval, as laws ask for them. -/
import Derived.Test.YtmmgkdcojkmlcaaGreatDoorLFAX
import Derived.LaidEqlPtr
import Derived.Laws.ResultCell
import Derived.Test.YtmmgkdcojkmlcaaGreatDoorLFAN
namespace Go.Proofs.YtmmgkdcojkmlcaaGreatDoor
open Go.RowKit

theorem lkc_all (lo c : Nat) (a : Option Addr) (fs : List FnT) (Xs : List Nat) (hfn : fs.length ≤ 100000) : ∀ n, LKC lo c a fs Xs n
  | 0 => fun t h => by cases t; rw [tsz] at h; omega
  | n + 1 => looked_step lo c a fs Xs n hfn (lkc_all lo c a fs Xs hfn n)
/-- no two of them are one -/
def Nodup' (Xs : List Nat) : Prop := ∀ (i j X : Nat), Xs[i]? = some X → Xs[j]? = some X → i = j
theorem fnd_first {fs : List FnT} {i : Nat} {g : FnT} (hg : fs[i]? = some g) : ∃ k, fnd fs g.name = some k ∧ k ≤ i ∧ ((fs.take i).any (fun h => h.name == g.name) = true ↔ k < i) := by
  have hs : (fnd fs g.name).isSome = true := by
    unfold fnd
    rw [List.findIdx?_isSome, List.any_eq_true]
    exact ⟨g, List.mem_of_getElem? hg, by simp⟩
  cases hk : fnd fs g.name with
  | none => rw [hk] at hs; cases hs
  | some k =>
    have hk2 := hk
    unfold fnd at hk2
    rw [List.findIdx?_eq_some_iff_getElem] at hk2
    obtain ⟨h1, h2, h3⟩ := hk2
    have hil := (List.getElem?_eq_some_iff.1 hg).1
    have hle : k ≤ i := by
      apply Classical.byContradiction
      intro hc
      have := h3 i (by omega)
      have hgi := (List.getElem?_eq_some_iff.1 hg).2
      rw [hgi] at this
      simp at this
    refine ⟨k, rfl, hle, ?_⟩
    rw [List.any_eq_true]
    constructor
    · intro ⟨x, hx, hn⟩
      obtain ⟨j, hj⟩ := List.getElem?_of_mem hx
      have hji : j < i := by
        have := (List.getElem?_eq_some_iff.1 hj).1
        simp at this
        omega
      apply Classical.byContradiction
      intro hc
      have h4 := h3 j (by omega)
      rw [List.getElem?_take_of_lt hji] at hj
      have h5 := (List.getElem?_eq_some_iff.1 hj).2
      rw [h5] at h4
      rw [hn] at h4
      exact h4 rfl
    · intro hlt
      exact ⟨fs[k], List.mem_of_getElem? (i := k) (by rw [List.getElem?_take_of_lt hlt]; exact List.getElem?_eq_getElem h1), h2⟩
theorem info_F : ∃ j, Tryz.prog.info? 51 = some j ∧ j.size = 5 := by
  have h0 : (Tryz.prog.info? 51).map (fun i => i.size) = some 5 := by kernel_rfl
  cases hj : Tryz.prog.info? 51 with
  | none => rw [hj] at h0; cases h0
  | some j => rw [hj] at h0; injection h0 with h0; exact ⟨j, rfl, h0⟩
theorem ptr_same (X : Nat) (w : World) : (binOp BinOp.neq 46 (.pointer (some ⟨X, 0, none⟩)) (.pointer (some ⟨X, 0, none⟩))).run Tryz.prog w = .ok (.bool false) w := by
  obtain ⟨j, hj, _⟩ := info_F
  have h : ∀ d : Nat, (Op.equalIn (d + 1) 46 (.pointer (some ⟨X, 0, none⟩)) (.pointer (some ⟨X, 0, none⟩))).run Tryz.prog w = .ok true w := fun d => by
    simp [Op.equalIn, run_underlying Tryz.underlying46, sizeOf, typeInfo, hj, run_sameAddr_same]
  simp only [binOp]
  simp [Op.equal, Op.maxDepth, h 9999]
theorem ptr_other {X Y : Nat} {ca cb : Array Value} {ta tb : TypeId} (w : World) (hne : ¬ X = Y) (ha : w.heap[X]? = some (.cells ca ta (0, 0))) (hb : w.heap[Y]? = some (.cells cb tb (0, 0))) : (binOp BinOp.neq 46 (.pointer (some ⟨X, 0, none⟩)) (.pointer (some ⟨Y, 0, none⟩))).run Tryz.prog w = .ok (.bool true) w := by
  obtain ⟨j, hj, hs⟩ := info_F
  have h : ∀ d : Nat, (Op.equalIn (d + 1) 46 (.pointer (some ⟨X, 0, none⟩)) (.pointer (some ⟨Y, 0, none⟩))).run Tryz.prog w = .ok false w := fun d => by
    simp [Op.equalIn, run_underlying Tryz.underlying46, sizeOf, typeInfo, hj, hs, run_sameAddr_other (P := Tryz.prog) w (a := ⟨X, 0, none⟩) (b := ⟨Y, 0, none⟩) (fun e => hne (by injection e)) ha hb]
  simp only [binOp]
  simp [Op.equal, Op.maxDepth, h 9999]
theorem bkf_step (g : List (List UInt8 × Nat)) (k : Nat) (x : List UInt8 × Nat) (hx : g[k]? = some x) : bkf (g.drop k) ((g.take k).map (·.1)).reverse = if x.1 ∈ (g.map (·.1)).take k then some (4, x.2) else bkf (g.drop (k + 1)) ((g.take (k + 1)).map (·.1)).reverse := by
  have hl := (List.getElem?_eq_some_iff.1 hx).1
  rw [List.drop_eq_getElem_cons hl, show g[k] = x from (List.getElem?_eq_some_iff.1 hx).2, bkf, List.take_add_one, hx]
  have e : x.1 ∈ ((g.take k).map (·.1)).reverse ↔ x.1 ∈ (g.map (·.1)).take k := by rw [List.mem_reverse, List.map_take]
  by_cases h : x.1 ∈ (g.map (·.1)).take k
  · rw [if_pos (e.2 h), if_pos h]
  · rw [if_neg (fun h' => h (e.1 h')), if_neg h]
    simp

set_option maxRecDepth 100000 in
set_option maxHeartbeats 4000000 in
theorem rnames_any (lo c : Nat) (a : Option Addr) (fs : List FnT) (Xs : List Nat) (w : World) (hF : RFl lo w a fs Xs) (hXs : Nodup' Xs) (hW : ∀ g, g ∈ fs → FW g) (hts : ∀ g, g ∈ fs → g.more.length + tsz g.body ≤ 100000) (hn : fs.length ≤ 4000) :
    Calls Tryz.prog 23 #[.slice a fs.length c] w (LkE (ckl fs fs 0) w) := by
  have hmx : Tryz.prog.follows .mixedOrders = true := by kernel_rfl
  have HFF := hid hF
  have HXS := hid hXs
  have HFW := hid hW
  have HTS := hid hts
  have HLK := hid (fun (t : Tr) => lkc_all lo c a fs Xs (by omega) (tsz t) t (Nat.le_refl _))
  have HFD := hid (fun (nm : ByteArray) (W : World) (h : RFl lo W a fs Xs) => rgfind_any lo c a fs Xs nm W h (by omega))
  obtain ⟨res, hres⟩ : ∃ res, res = ckl fs fs 0 := ⟨_, rfl⟩
  have HRS := hid hres
  rw [← hres]
  obtain ⟨nf, hnf⟩ : ∃ nf, nf = fs.length := ⟨_, rfl⟩
  have HNF := hid hnf
  rw [← hnf] at hn HLK HFD ⊢
  have HWD : Hid (∀ e w', LkE res w e w' → LkE res w e w') := fun _ _ h => h
  clear hF hXs hW hts hres hnf
  go_enter Tryz.func23, Tryz.ntmps23
  go_wp2_with fail
  go_loopw [4] (fun iv wr => ∃ (i : Nat), i ≤ nf ∧ iv = .int .i64 i ∧ Hid (res = ckl fs (fs.drop i) i) ∧ Hid (Below w.heap.size w wr)) (fun iv _ => nf - (intOf iv).toNat)
  case atStart => exact ⟨0, Nat.zero_le _, rfl, HRS, Below.refl _ _⟩
  case round =>
    obtain ⟨i, hi, rfl, hck, hbw⟩ := hrel
    by_cases hin : i < nf
    · have hi2 : (i : Int) < (nf : Int) := by omega
      have hwr : IntKind.i64.wrap ((i : Int) + 1) = (i : Int) + 1 := by rw [IntKind.wrap_i64]; omega
      have hFr := HFF.out.below hbw.out
      obtain ⟨g, X, kb, hg, hX, hakb, hc, hR⟩ := hFr.get (i := i) (by have := HNF.out; omega)
      have HFW2 := hid (HFW.out g (List.mem_of_getElem? hg))
      have HTS2 := hid (HTS.out g (List.mem_of_getElem? hg))
      obtain ⟨am, cm, aw, cw, pb, _, hXb, ⟨hroom, hnone⟩, hbody, hnames, hplaces⟩ := hR
      have f0 : wr.cell? ⟨X, 0, none⟩ = some (.string (bs g.name)) := by simp [World.cell?, hXb]
      have f1 : wr.cell? ⟨X, 1, none⟩ = some (.int .i64 (g.at' : Int)) := by simp [World.cell?, hXb]
      have f2 : wr.cell? ⟨X, 2, none⟩ = some (.slice am g.more.length cm) := by simp [World.cell?, hXb]
      have f3 : wr.cell? ⟨X, 3, none⟩ = some (.slice aw g.more.length cw) := by simp [World.cell?, hXb]
      have f4 : wr.cell? ⟨X, 4, none⟩ = some (.pointer pb) := by simp [World.cell?, hXb]
      have HFC := hid (HFD.out (bs g.name) wr hFr)
      rw [by_bs] at HFC
      obtain ⟨k0, hk0, hk0i, hk0a⟩ := fnd_first hg
      have hck2 := hck.out
      rw [List.drop_eq_getElem_cons (by have := HNF.out; omega), show fs[i]'(by have := HNF.out; omega) = g from (List.getElem?_eq_some_iff.1 hg).2, ckl] at hck2
      have HCK := hid hck2
      have HK0 := hid (And.intro hk0 hk0a)
      have HGX := hid (And.intro hg hX)
      subst hakb
      generalize bs g.name = gn at *
      clear hck hck2 hFr hk0 hk0a hg hX
      go_wp2_with fail
      refine HFC.out.mono ?_
      rintro e w1 ⟨hw1, hfd⟩
      have hw2 := hw1.symm
      subst hw2
      rcases hfd with ⟨h0, _⟩ | ⟨k1, X1, h1, h2, rfl⟩
      · rw [HK0.out.1] at h0; cases h0
      · obtain rfl : k1 = k0 := by rw [HK0.out.1] at h1; injection h1 with h1; exact h1.symm
        by_cases hdup : (fs.take i).any (fun h => h.name == g.name) = true
        · have hne : ¬ X1 = X := fun e => by
            subst e
            have := HXS.out _ _ _ h2 HGX.out.2
            have := HK0.out.2.1 hdup
            omega
          have HE : Hid (LkE res w (.returned (.tuple #[.int .i64 (g.at' : Int), .int .i64 4])) wr) := ⟨hbw.out, by rw [HCK.out, if_pos hdup]; exact ⟨rfl, by show (4 : Nat) ≠ 0; decide⟩⟩
          obtain ⟨g1, hg1⟩ : ∃ g1, fs[k1]? = some g1 := ⟨_, List.getElem?_eq_getElem (by rw [← HFF.out.len]; exact (List.getElem?_eq_some_iff.1 h2).1)⟩
          obtain ⟨_, _, _, _, _, _, hX1b, _⟩ := ((HFF.out.below hbw.out).at' k1 g1 X1 hg1 h2).2
          have hpn := ptr_other wr hne hX1b hXb
          clear hdup h1 h2 HK0 HCK hg1 hX1b
          go_wp2_with fail
          go_ret2
          exact HWD.out _ _ HE.out
        · obtain rfl : k1 = i := by
            have := HK0.out.2
            have h3 : ¬ k1 < i := fun h => hdup (this.2 h)
            omega
          obtain rfl : X1 = X := by rw [HGX.out.2] at h2; injection h2 with h2; exact h2.symm
          have hpn := ptr_same X1 wr
          have hck3 := HCK.out
          rw [if_neg hdup] at hck3
          have HCK3 := hid hck3
          obtain ⟨n, hnl⟩ : ∃ n, n = g.more.length := ⟨_, rfl⟩
          have HNL := hid hnl
          rw [← hnl] at f2 f3
          have hn4 : n ≤ 4000 := by rw [hnl]; exact HFW2.out.2.2.1
          have hroom2 : (n : Int) ≤ (cm : Int) := by rw [hnl]; omega
          have HSL : Hid (SLs wr am (g.more.map (·.1))) := fun j s hs => by
            rw [List.getElem?_map] at hs
            cases hj : g.more[j]? with
            | none => rw [hj] at hs; cases hs
            | some x =>
              rw [hj] at hs
              simp at hs
              obtain ⟨k5, q1, _, q3⟩ := hnames j x hj
              exact ⟨k5, q1, by rw [← hs]; exact q3⟩
          have HPL : Hid (∀ (j : Nat) x, g.more[j]? = some x → ∃ k, aw = some ⟨k, 0, none⟩ ∧ wr.cell? ⟨k, j, none⟩ = some (.int .i64 (x.2 : Int))) := fun j x hx => by
            obtain ⟨k5, q1, _, q3⟩ := hplaces j x hx
            exact ⟨k5, q1, q3⟩
          have HNN : Hid (am = none → n = 0 ∧ cm = 0) := by unfold Hid; rw [hnl]; exact hnone
          have HBD := hid hbody
          have hpb : ∃ bb, (Value.pointer pb) = .pointer (some ⟨bb, 0, none⟩) := XTB.form hbody
          obtain ⟨bb, hpb⟩ := hpb
          injection hpb with hpb
          subst hpb
          have HCM := hid hroom
          have hF5 := HFF.out.below hbw.out
          have HLC := hid (fun (V : World) (hV : Below wr.heap.size wr V) => HLK.out g.body HFW2.out.2.2.2 V _ (hF5.below hV) (XT.below hbody hV) ((g.more.map (·.1)).reverse) am n cm (by rw [List.length_reverse, List.length_map, hnl]) (by rw [hnl]; exact HTS2.out) (by rw [List.reverse_reverse]; exact HSL.out.below hV) HNN.out)
          clear hdup h1 h2 HK0 HCK hck3 hnl hnames hplaces hnone hroom hbody hXb hF5 hk0i
          obtain ⟨wo, hwo⟩ : ∃ wo, wo = wr := ⟨_, rfl⟩
          rw [← hwo] at f0 f1 f2 f3 f4 HSL HPL HBD HLC hc hbw hpn
          rw [← hwo]
          clear hwo
          go_wp2_with fail
          go_loopw [6] (fun kv wq => ∃ (k : Nat), k ≤ n ∧ kv = .int .i64 k ∧ Hid (bkf g.more [] = bkf (g.more.drop k) ((g.more.take k).map (·.1)).reverse) ∧ Hid (Below wo.heap.size wo wq)) (fun kv _ => n - (intOf kv).toNat)
          case atStart => exact ⟨0, Nat.zero_le _, rfl, by unfold Hid; simp, Below.refl _ _⟩
          case round =>
            obtain ⟨k, hk, rfl, hbk, hdr⟩ := hrel
            have HBW2 := hid (hbw.out.trans (hdr.out.mono hbw.out.size))
            have z2 : wr.cell? ⟨X1, 2, none⟩ = some (.slice am n cm) := (hdr.out.cell (p := ⟨X1, 2, none⟩) (World.block_lt_of_cell? _ _ f2)).trans f2
            have z3 : wr.cell? ⟨X1, 3, none⟩ = some (.slice aw n cw) := (hdr.out.cell (p := ⟨X1, 3, none⟩) (World.block_lt_of_cell? _ _ f3)).trans f3
            have z4 : wr.cell? ⟨X1, 4, none⟩ = some (.pointer (some ⟨bb, 0, none⟩)) := (hdr.out.cell (p := ⟨X1, 4, none⟩) (World.block_lt_of_cell? _ _ f4)).trans f4
            by_cases hkn : k < n
            · have hk2 : (k : Int) < (n : Int) := by omega
              have hkc : (k : Int) ≤ (cm : Int) := by omega
              have hwk : IntKind.i64.wrap ((k : Int) + 1) = (k : Int) + 1 := by rw [IntKind.wrap_i64]; omega
              obtain ⟨x, hx⟩ : ∃ x, g.more[k]? = some x := ⟨_, List.getElem?_eq_getElem (by have := HNL.out; omega)⟩
              obtain ⟨kn, ham, hcn⟩ := HSL.out k x.1 (by rw [List.getElem?_map, hx]; rfl)
              obtain ⟨kp, haw, hcp⟩ := HPL.out k x hx
              have y0 : wr.cell? ⟨kn, k, none⟩ = some (.string (bs x.1)) := (hdr.out.cell (p := ⟨kn, k, none⟩) (World.block_lt_of_cell? _ _ hcn)).trans hcn
              have y1 : wr.cell? ⟨kp, k, none⟩ = some (.int .i64 (x.2 : Int)) := (hdr.out.cell (p := ⟨kp, k, none⟩) (World.block_lt_of_cell? _ _ hcp)).trans hcp
              have d2 : ∀ d, ({ wr with drawn := d } : World).cell? ⟨X1, 2, none⟩ = some (.slice am n cm) := fun _ => z2
              have d0 : ∀ d, ({ wr with drawn := d } : World).cell? ⟨kn, k, none⟩ = some (.string (bs x.1)) := fun _ => y0
              have HHC : Hid (∀ d, Calls Tryz.prog 42 #[.slice am k cm, .string (bs x.1)] ({ wr with drawn := d } : World) fun e w' => e = .returned (.bool (decide (x.1 ∈ (g.more.map (·.1)).take k))) ∧ w' = ({ wr with drawn := d } : World)) := fun d => by
                have h1 := rhas_any cm k am ((g.more.map (·.1)).take k) (bs x.1) ({ wr with drawn := d } : World) ((HSL.out.below (show Below wo.heap.size wo ({ wr with drawn := d } : World) from ⟨hdr.out.os, hdr.out.tape, hdr.out.output, hdr.out.size, hdr.out.block⟩)).take k) (by rw [List.length_take, List.length_map]; have := HNL.out; omega) (by omega)
                rw [by_bs] at h1
                exact h1.mono fun e w' h => ⟨h.2, h.1⟩
              have hst := hbk.out
              rw [bkf_step g.more k x hx] at hst
              have HST := hid hst
              subst ham haw
              obtain ⟨tw, htw⟩ : ∃ tw, tw = decide (x.1 ∈ (g.more.map (·.1)).take k) := ⟨_, rfl⟩
              rw [← htw] at HHC
              have HTW := hid htw
              generalize bs x.1 = xn at *
              clear hbk hst hx htw
              go_wp2_with fail
              refine wp_region_still_lit hmx (by kernel_rfl) ?_
              (repeat still_step)
              still_call (HHC.out _)
              (repeat still_step)
              refine wpStill_nil ?_
              cases tw with
              | true =>
                have htw := HTW.out
                have hin : x.1 ∈ (g.more.map (·.1)).take k := of_decide_eq_true htw.symm
                have hst := HST.out
                rw [if_pos hin] at hst
                have HE : Hid (LkE res w (.returned (.tuple #[.int .i64 (x.2 : Int), .int .i64 4])) wr.drew) := ⟨HBW2.out.drew, by
                  rw [HCK3.out]
                  unfold ckw
                  rw [hst]
                  exact ⟨rfl, by show (4 : Nat) ≠ 0; decide⟩⟩
                have u3 : wr.drew.cell? ⟨X1, 3, none⟩ = some (.slice (some ⟨kp, 0, none⟩) n cw) := z3
                have u1 : wr.drew.cell? ⟨kp, k, none⟩ = some (.int .i64 (x.2 : Int)) := y1
                clear htw hin hst HTW
                go_wp2_with fail
                go_ret2
                exact HWD.out _ _ HE.out
              | false =>
                have hst := HST.out
                rw [if_neg (of_decide_eq_false HTW.out.symm)] at hst
                have HB2 := hid hst
                have HD2 : Hid (Below wo.heap.size wo wr.drew) := hdr.out.drew
                clear hst HTW HST
                go_wp2_with fail
                go_roundw
                case rel => exact ⟨k + 1, by omega, by go_num, HB2, HD2⟩
                case measure => simp [intOf]; omega
            · obtain rfl : k = n := by omega
              have hk2 : ¬ (k : Int) < (k : Int) := by omega
              have hb9 := hbk.out
              rw [HNL.out, List.drop_length, bkf] at hb9
              have HCW : Hid (ckw (sgF fs) g = lk (sgF fs) g.body (g.more.map (·.1)).reverse) := by unfold Hid ckw; rw [hb9]
              have HC := hid (HLC.out wr.drew hdr.out.drew)
              have d2 : ∀ d, ({ wr with drawn := d } : World).cell? ⟨X1, 2, none⟩ = some (.slice am k cm) := fun _ => z2
              have d4 : ∀ d, ({ wr with drawn := d } : World).cell? ⟨X1, 4, none⟩ = some (.pointer (some ⟨bb, 0, none⟩)) := fun _ => z4
              have hb00 : Below wr.heap.size wr wr.drew := (Below.refl _ _).drew
              have HKE : Hid (∀ V, Below wr.heap.size wr V → V.cell? ⟨X1, 2, none⟩ = some (.slice am k cm) ∧ V.cell? ⟨X1, 4, none⟩ = some (.pointer (some ⟨bb, 0, none⟩))) := fun V h => ⟨(h.cell (p := ⟨X1, 2, none⟩) (World.block_lt_of_cell? _ _ z2)).trans z2, (h.cell (p := ⟨X1, 4, none⟩) (World.block_lt_of_cell? _ _ z4)).trans z4⟩
              obtain ⟨o, ho⟩ : ∃ o, o = lk (sgF fs) g.body (g.more.map (·.1)).reverse := ⟨_, rfl⟩
              rw [← ho] at HC HCW
              have HSHP : Hid (∀ e w3, LkE o wr.drew e w3 → ∃ x y : Int, e = .returned (.tuple #[.int .i64 x, .int .i64 y]) ∧ Below wr.heap.size wr w3 ∧ ((o = none ∧ x = 0 ∧ y = 0) ∨ ∃ p, o = some p ∧ x = (p.2 : Nat) ∧ y = (p.1 : Nat) ∧ p.1 ≠ 0)) := fun e w3 h => by
                have hb : Below wr.heap.size wr w3 := ⟨h.1.os, h.1.tape, h.1.output, h.1.size, h.1.block⟩
                have h2 := h.2
                cases hoo : o with
                | none => rw [hoo] at h2; exact ⟨0, 0, h2, hb, Or.inl ⟨rfl, rfl, rfl⟩⟩
                | some p => rw [hoo] at h2; exact ⟨_, _, h2.1, hb, Or.inr ⟨p, rfl, rfl, rfl, h2.2⟩⟩
              clear hbk hb9 ho d2 d4
              go_wp2_with fail
              go_region_held3 (fun V => V.cell? ⟨X1, 2, none⟩ = some (.slice am k cm) ∧ V.cell? ⟨X1, 4, none⟩ = some (.pointer (some ⟨bb, 0, none⟩))) (exact HKE.out _ (by assumption))
                (first | (go_at_call 43; refine HC.out.mono ?_; intro e w3 he; obtain ⟨y2, y1, rfl, hb3, hoc⟩ := HSHP.out e w3 he; clear he))
              have HB3 := hid (HBW2.out.trans (hb3.mono HBW2.out.size))
              rcases hoc with ⟨ho, rfl, rfl⟩ | ⟨y, ho, rfl, rfl, hy⟩
              · have hl3 := HCK3.out
                rw [HCW.out, ho] at hl3
                have HL3 : Hid (res = ckl fs (fs.drop (k1 + 1)) (k1 + 1)) := hl3
                clear hl3 hb3 ho HCW HCK3 HC
                go_wp2_with fail
                go_roundw
                case rel => exact ⟨k1 + 1, by omega, by go_num, HL3, HB3⟩
                case measure => simp [intOf]; omega
              · have hl3 := HCK3.out
                rw [HCW.out, ho] at hl3
                replace hl3 : res = some y := hl3
                have q0 : ((y.1 : Int) != 0) = true := by simp; omega
                have HE : Hid (LkE res w (.returned (.tuple #[.int .i64 (y.2 : Nat), .int .i64 (y.1 : Nat)])) w3) := ⟨HB3.out, by rw [hl3]; exact ⟨rfl, hy⟩⟩
                generalize ((y.1 : Nat) : Int) = z1 at *
                generalize ((y.2 : Nat) : Int) = z2' at *
                clear hl3 hb3 ho HCW HCK3 HC hy
                go_wp2_with fail
                go_ret2
                exact HWD.out _ _ HE.out
    · obtain rfl : i = nf := by omega
      have hi2 : ¬ (i : Int) < (i : Int) := by omega
      have hck2 := hck.out
      rw [HNF.out, List.drop_length, ckl] at hck2
      have HE : Hid (LkE res w (.returned (.tuple #[.int .i64 0, .int .i64 0])) wr) := ⟨hbw.out, by rw [hck2]⟩
      clear hck hck2
      go_wp2_with fail
      go_ret2
      exact HWD.out _ _ HE.out

end Go.Proofs.YtmmgkdcojkmlcaaGreatDoor

namespace Go.Proofs.YtmmgkdcojkmlcaaGreatDoor
open Go.RowKit

end Go.Proofs.YtmmgkdcojkmlcaaGreatDoor

namespace Go.Proofs.YtmmgkdcojkmlcaaGreatDoor
open Go.RowKit

end Go.Proofs.YtmmgkdcojkmlcaaGreatDoor

namespace Go.Proofs.YtmmgkdcojkmlcaaGreatDoor
open Go.RowKit

/-- a text's functions, or its first fault -/
def prs (T : ByteArray) : Res (List FnT) := pRes (by' T) (4 * T.size + 1)
theorem prs_out (T : ByteArray) : prs T ≠ .out := by
  have h := pProg_fw (by' T) (4 * T.size + 1) [] 0 (Nat.zero_le _) (by rw [by_len]; omega)
  unfold prs pRes
  cases hq : pProg (by' T) (4 * T.size + 1) [] 0 with
  | out => rw [hq] at h; exact h.elim
  | bad e a => exact fun h => (nomatch h)
  | ok fs j =>
    cases hc : ckn fs (by' T).length with
    | none => simp [hc]
    | some y => simp [hc]
theorem parse_is (T : ByteArray) (w : World) (hTm : T.size ≤ 281474976710656) (hEv : EvW w) : Calls Tryz.prog 10 #[.string T] w (PaR w T.size (prs T)) :=
  parse_any T (4 * T.size + 1) w hTm hEv (prs T) rfl (prs_out T)

end Go.Proofs.YtmmgkdcojkmlcaaGreatDoor

namespace Go.Proofs.YtmmgkdcojkmlcaaGreatDoor
open Go.RowKit

theorem prs_ok {T : ByteArray} {fs : List FnT} {j : Nat} (h : prs T = .ok fs j) : FsOk fs ∧ ∃ i g, fs[i]? = some g ∧ g.name = mainW ∧ nmM fs fs.length mainW = some ((i : Nat) : Int) := by
  unfold prs pRes at h
  cases hq : pProg (by' T) (4 * T.size + 1) [] 0 with
  | out => rw [hq] at h; cases h
  | bad e a => rw [hq] at h; cases h
  | ok gs k =>
    rw [hq] at h
    cases hc : ckn gs (by' T).length with
    | some y => simp [hc] at h
    | none =>
      simp [hc] at h
      obtain ⟨rfl, rfl⟩ := h
      obtain ⟨h1, h2⟩ := ckn_none hc
      refine ⟨h1, ?_⟩
      rw [List.any_eq_true] at h2
      obtain ⟨g, hg, hn⟩ := h2
      obtain ⟨i, hi⟩ := List.getElem?_of_mem hg
      have hn' : g.name = mainW := by simpa using hn
      exact ⟨i, g, hi, hn', by rw [← hn']; exact h1.num hi⟩
end Go.Proofs.YtmmgkdcojkmlcaaGreatDoor
