/- The reference of programs as text: calls looked at. The reference of programs as text: any part looked at. -/
import Derived.Test.YtlgcmeachjjmgajGreatDoorBfE
import Derived.Test.YtlgcmeachjjmgajGreatDoorRgM
import Derived.Test.YtlgcmeachjjmgajGreatDoorBfD
namespace Go.Proofs.YtlgcmeachjjmgajGreatDoor
open Go.RowKit

theorem evA_app (f : Tr → Nat → ER Int) : ∀ (ms : List (List UInt8 × Nat)) (ts : List Tr) (ms' : List (List UInt8 × Nat)) (ts' : List Tr) (own : List (List UInt8 × Int)) (k : Nat), ms.length = ts.length → evA f (ms ++ ms') (ts ++ ts') own k = (evA f ms ts own k).bind fun own k => evA f ms' ts' own k
  | [], [], _, _, _, _, _ => rfl
  | [], _ :: _, _, _, _, _, h => by simp at h
  | _ :: _, [], _, _, _, _, h => by simp at h
  | m :: ms, t :: ts, ms', ts', own, k, h => by
    rw [List.cons_append, List.cons_append, evA, evA, ER.bind_bind]
    exact congrArg (f t k).bind (funext fun v => funext fun k2 => evA_app f ms ts ms' ts' _ k2 (by simpa using h))
theorem take_snoc {α : Type} {l : List α} {j : Nat} {x : α} (h : l[j]? = some x) : l.take (j + 1) = l.take j ++ [x] := by
  rw [List.take_add_one, h]; rfl
theorem zat_left (zs : List Int) (z : Int) {i : Nat} (h : i < zs.length) : zat (zs ++ [z]) i = zat zs i := by
  unfold zat; rw [List.getElem?_append_left h]
theorem zat_last (zs : List Int) (z : Int) : zat (zs ++ [z]) zs.length = z := by
  unfold zat; simp
theorem mnS_app (p : Nat) (more : List (List UInt8 × Nat)) (zs : List Int) (z : Int) : ∀ j, j ≤ zs.length → mnS p more (zs ++ [z]) j = mnS p more zs j
  | 0, _ => rfl
  | j + 1, h => by rw [mnS, mnS, mnS_app p more zs z j (by omega), zat_left zs z (by omega)]
theorem Fr.more2 {R : Nat} {w w2 w3 : World} (h : Fr R w w2) (b : Below w.heap.size w2 w3) (hR : R < w.heap.size) : Fr R w w3 := ⟨h.1.trans (b.mono (Nat.le_of_lt hR)), fun x hx hne => (b.block x hx).trans (h.2 x hx hne)⟩
theorem ECx.fl {V : Nat} {a : Option Addr} {fs : List FnT} {Xs : List Nat} {w W : World} (h : ECx V a fs Xs w) (e : W.heap = w.heap) : RFl 0 W a fs Xs := ⟨h.len, fun i g X hg hX => by
  obtain ⟨⟨k, k1, k2, k3⟩, h2⟩ := h.fn i g X hg hX
  refine ⟨⟨k, k1, Nat.zero_le _, ?_⟩, h2.keep (B' := fun b => 0 ≤ b) (fun b _ _ => ⟨Nat.zero_le _, by rw [e]⟩)⟩
  unfold World.cell? at k3 ⊢
  rw [e]
  exact k3⟩
theorem fnd_is {fs : List FnT} (hF : FsOk fs) {i : Nat} {g : FnT} (hi : fs[i]? = some g) : fnd fs g.name = some i := by
  refine fnd_at (fun j g' hj hg' e => ?_) hi rfl
  have := hF.one hg' hi e
  omega
theorem owns_rowp {base V : Nat} {w : World} {v : Value} {zs : List Int} (h : w.ownsRow base 3 1 v zs.length (zs.map (Value.int .i64))) (hV : V < base) : ∃ aa ca, v = .slice aa zs.length ca ∧ RowP (fun b => b ≠ V) w aa zs := by
  rcases h.2 with ⟨rfl, h0⟩ | ⟨g, cap, cur, rfl, hbs, _⟩
  · exact ⟨none, 0, by rw [h0], fun k hk => by omega⟩
  · refine ⟨_, _, rfl, fun k hk => ⟨g, 0, rfl, by omega, ?_⟩⟩
    have h5 := h.cells (g := g) rfl k (.int .i64 (zat zs k)) (by rw [List.getElem?_map, List.getElem?_eq_getElem hk]; simp [zat, List.getElem?_eq_getElem hk])
    have hadd : (⟨g, 0, none⟩ : Addr).add k = ⟨g, 0 + k, none⟩ := by unfold Addr.add; split <;> simp_all
    rw [hadd] at h5
    exact h5

set_option maxRecDepth 100000 in
set_option maxHeartbeats 4000000 in
theorem rlook_call (V p nf c fuel R k : Nat) (a : Option Addr) (fs : List FnT) (Xs : List Nat) (h3 : 3 ≤ p) (h4 : p ≤ 2147483647) (hfu : fuel ≤ 1000000) (hnf : nf = fs.length) (_hnf4 : nf ≤ 4000) (_hFs : FsOk fs) (_hFW : ∀ g, g ∈ fs → FW g) (ih : LOK V p a nf c fuel fs Xs R) (kd : Nat) (nm : List UInt8) (at' nn : Nat) (kids : List Tr) (sc : List (List UInt8 × Int)) (x v : Value) (w : World)
    (hE : ReAt w V p a nf c fuel k 0) (hk : k < fuel) (hC : ECx V a fs Xs w) (hX : XTB (fun b => b < V) w (.node kd nm at' nn kids) x) (hTW : TW (.node kd nm at' nn kids)) (hV : VeP V w v sc) (hS : ScB p sc) (hL : lk (sgF fs) (.node kd nm at' nn kids) (sc.map (·.1)) = none) (q : ER Int) (hq : q = evl p fs fuel (R + 1) (.node kd nm at' nn kids) sc k) (hro : q ≠ .out) (hkd : kd = 2) :
    Calls Tryz.prog 61 #[.pointer (some ⟨V, 0, none⟩), x, v] w (LoE V p a nf c fuel q w) := by
  have hmx : Tryz.prog.follows .mixedOrders = true := by kernel_rfl
  obtain ⟨b, ax, cx, A, rfl, hb, hh, hA, hK⟩ := hX
  obtain ⟨vq, rfl⟩ := hV.form
  obtain ⟨hsh, hTs⟩ := hTW
  have hk12 := shp_lt hsh
  unfold evl at hq
  rw [if_neg (by omega)] at hq
  have q0 : ((bs (opS kd)).toList == [110, 117, 109, 98, 101, 114]) = decide (kd = 0) := by rw [bs_list]; exact op_number kd hk12
  have q1 : ((bs (opS kd)).toList == [110, 97, 109, 101]) = decide (kd = 1) := by rw [bs_list]; exact op_name kd hk12
  have q3 : ((bs (opS kd)).toList == [110, 101, 103]) = decide (kd = 3) := by rw [bs_list]; exact op_neg kd hk12
  have q9 : ((bs (opS kd)).toList == [108, 101, 116]) = decide (kd = 9) := by rw [bs_list]; exact op_let kd hk12
  have q11 : ((bs (opS kd)).toList == [105, 102]) = decide (kd = 11) := by rw [bs_list]; exact op_if kd hk12
  have q2 : ((bs (opS kd)).toList == [99, 97, 108, 108]) = decide (kd = 2) := by rw [bs_list]; exact op_call kd hk12
  have q10 : ((bs (opS kd)).toList == [110, 101, 101, 100]) = decide (kd = 10) := by rw [bs_list]; exact op_need kd hk12
  rw [decide_eq_false (by omega)] at q0
  rw [decide_eq_false (by omega)] at q1
  rw [decide_eq_false (by omega)] at q3
  rw [decide_eq_false (by omega)] at q9
  rw [decide_eq_false (by omega)] at q11
  rw [decide_eq_true hkd] at q2
  rw [decide_eq_false (by omega)] at q10
  have e0 : w.cell? ⟨b, 0, none⟩ = some (.string (bs (opS kd))) := by simp [World.cell?, hh]
  have e1 : w.cell? ⟨b, 1, none⟩ = some (.string (bs nm)) := by simp [World.cell?, hh]
  have e2 : w.cell? ⟨b, 2, none⟩ = some (.int .i64 (nn : Int)) := by simp [World.cell?, hh]
  have e4 : w.cell? ⟨b, 4, none⟩ = some (.slice ax kids.length cx) := by simp [World.cell?, hh]
  have c3 := hE.c3
  have c4 := hE.c4
  have c2 := hE.c2
  have y3 := hE.fz 3
  have hVl := hE.lt
  have qk : ((k : Int) == (fuel : Int)) = false := by simp; omega
  have hw1 : IntKind.i64.wrap ((k : Int) + 1) = (k : Int) + 1 := by rw [IntKind.wrap_i64]; omega
  have HWD : Hid (∀ en w', LoE V p a nf c fuel q w en w' → LoE V p a nf c fuel q w en w') := fun _ _ h => h
  have HKK : Hid (∀ (W : World), Fr V w W → ∀ (i : Nat) (t : Tr), kids[i]? = some t → ∃ g vb, ax = some ⟨g, 0, none⟩ ∧ W.cell? ⟨g, i, none⟩ = some (.pointer (some ⟨vb, 0, none⟩)) ∧ XTB (fun b => b < V) W t (.pointer (some ⟨vb, 0, none⟩)) ∧ TW t) := fun W hW i t ht => by
    obtain ⟨g, v, h1, h2, h5, h6⟩ := XTBs_at hK ht
    obtain ⟨vb, rfl⟩ := h6.form
    rw [Nat.zero_add] at h5
    exact ⟨g, vb, h1, hW.cell (by omega) h5, h6.fr hW, hTs.at ht⟩
  have HXB : Hid (∀ (W : World), Fr V w W → W.heap[b]? = some (.cells #[.string (bs (opS kd)), .string (bs nm), .int .i64 (nn : Int), .int .i64 A, .slice ax kids.length cx] 166 (0, 0))) := fun W hW => (hW.2 b (Array.getElem?_eq_some_iff.1 hh).1 (by omega)).trans hh
  have HW1 : Hid (∀ nq, ReAt ((w.drewN nq).setCell ⟨V, 3, none⟩ (.int .i64 ((k : Int) + 1))) V p a nf c fuel (k + 1) 0 ∧ Fr V w ((w.drewN nq).setCell ⟨V, 3, none⟩ (.int .i64 ((k : Int) + 1)))) := fun nq => ⟨(show ReAt (w.drewN nq) V p a nf c fuel k 0 from hE).s3 (k + 1), (frN V nq w).set 3 _⟩
  have HIH := hid ih
  have HCX := hid hC
  have HVV := hid hV
  have HSB := hid hS
  have HQ := hid hq
  have HRO := hid hro
  have HLK := hid hL
  have HSH := hid hsh
  have hbV : ¬ b = V := by omega
  have HNF := hid hnf
  have HKF : Hid (k < fuel) := hk
  have HP3 := hid h3
  have HP4 := hid h4
  obtain ⟨ig, g, hgi, hgn, hgm⟩ : ∃ (i : Nat) (g : FnT), fs[i]? = some g ∧ g.name = nm ∧ g.more.length = kids.length := by
    have hL2 := hL
    rw [lk] at hL2
    split at hL2
    · cases hL2
    · rename_i ho
      have ho : onf (sgF fs) kd nm kids.length (sc.map (·.1)) = 0 := by simpa using ho
      unfold onf at ho
      rw [if_neg (by omega), if_neg (by omega), if_pos hkd] at ho
      have hsg : sgF fs nm kids.length = true := by
        cases hh : sgF fs nm kids.length with
        | true => rfl
        | false => rw [hh] at ho; cases ho
      unfold sgF at hsg
      obtain ⟨g, hg, hgg⟩ := List.any_eq_true.1 hsg
      simp at hgg
      obtain ⟨i, hi⟩ := List.mem_iff_getElem?.1 hg
      exact ⟨i, g, hi, hgg.1, hgg.2⟩
  have HFO : Hid (fnOf fs nm = some g) := by have := _hFs.fn hgi; rw [hgn] at this; exact this
  obtain ⟨X, hXi⟩ : ∃ X, Xs[ig]? = some X := ⟨_, List.getElem?_eq_getElem (by rw [hC.len]; exact (List.getElem?_eq_some_iff.1 hgi).1)⟩
  have HFD : Hid (∀ W0 W, ECx V a fs Xs W0 → W.heap = W0.heap → Calls Tryz.prog 20 #[.slice a nf c, .string (bs nm)] W fun e w' => e = .returned (.pointer (some ⟨X, 0, none⟩)) ∧ w' = W) := fun W0 W hC0 e => by
    rw [hnf]
    refine (rgfind_any 0 c a fs Xs (bs nm) W (hC0.fl e) (by omega)).mono ?_
    rintro en w' ⟨hw, hd⟩
    have hfd := fnd_is _hFs hgi
    rw [hgn] at hfd
    unfold FdE at hd
    rw [by_bs, hfd] at hd
    rcases hd with ⟨h, _⟩ | ⟨k, X', h, hX', he⟩
    · cases h
    · injection h with h
      subst h
      rw [hXi] at hX'
      injection hX' with hX'
      subst hX'
      exact ⟨he, hw⟩
  have HGI := hid hgi
  have HXI := hid hXi
  have HGM := hid hgm
  have HCL := hid (fun (r : ER (List (List UInt8 × Int))) (aa : Option Addr) (ca na : Nat) (zs : List Int) (W : World) (hE : EW W V p a nf c fuel r) (hC : ECx V a fs Xs W) (hA : RowP (fun b => b ≠ V) W aa zs) (hAb : ∀ j, -9223372036854775808 ≤ zat zs j ∧ zat zs j ≤ 9223372036854775807) (hna : na = zs.length) (hal : zs.length = g.more.length) => rcl_any V p nf c fuel R a fs Xs h3 h4 ih _ r g X aa ca na zs W hE hC (hC.fn ig g X hgi hXi).2 (_hFW g (List.mem_of_getElem? hgi)).2.2.2 hA hAb hna hal (_hFW g (List.mem_of_getElem? hgi)).2.2.1 (by rw [mnS_names p g.more zs _ (Nat.le_refl _), List.take_length]; exact ckw_none (_hFs ig g hgi).2))
  have HVL : Hid (V < w.heap.size) := hVl
  generalize bs (opS kd) = op at *
  clear hE hk hC hK hTs hV hS hL hq hro ih hh hA hsh hnf
  go_enter Tryz.func61, Tryz.ntmps61
  go_wp2_with fail
  go_quiet (fail)
  obtain ⟨hE1, hF1⟩ := HW1.out nq
  have y3' : (w.drewN nq).frozen? ⟨V, 3, none⟩ = false := y3
  have c3' : (w.drewN nq).cell? ⟨V, 3, none⟩ = some (.int .i64 (k : Int)) := c3
  obtain ⟨w1, hw1'⟩ : ∃ w1, (w.drewN nq).setCell ⟨V, 3, none⟩ (.int .i64 ((k : Int) + 1)) = w1 := ⟨_, rfl⟩
  rw [hw1'] at hE1 hF1
  have HE1 := hid hE1
  have HF1 := hid hF1
  have hh1 := HXB.out w1 hF1
  have f0 : w1.cell? ⟨b, 0, none⟩ = some (.string op) := by simp [World.cell?, hh1]
  have f1 : w1.cell? ⟨b, 1, none⟩ = some (.string (bs nm)) := by simp [World.cell?, hh1]
  have f2 : w1.cell? ⟨b, 2, none⟩ = some (.int .i64 (nn : Int)) := by simp [World.cell?, hh1]
  have f4 : w1.cell? ⟨b, 4, none⟩ = some (.slice ax kids.length cx) := by simp [World.cell?, hh1]
  have g0 := hE1.c0
  have g1 := hE1.c1
  have g4 := hE1.c4
  have HC1 := hid (HCX.out.fr hF1)
  have HV1 := hid (HVV.out.fr hF1)
  clear hE1 hF1 hh1 c2 c4 y3 c3 e0 e1 e2 e4 HCX HVV qk
  obtain ⟨i0, hi, hz0, hz1, hz2⟩ := info_parts Tryz.infoInt
  have hq := HQ.out
  rw [if_neg (by omega), if_neg (by omega), if_pos hkd, HFO.out] at hq
  have HQ2 : Hid (q = (evA (fun t k => evl p fs fuel R t sc k) g.more kids [] (k + 1)).bind fun own k2 => evl p fs fuel R g.body own k2) := hq
  have HLK2 : Hid (∀ (j : Nat) (t : Tr), kids[j]? = some t → lk (sgF fs) t (sc.map (·.1)) = none) := fun j t ht => by
    have hlk := HLK.out
    rw [lk] at hlk
    split at hlk
    · cases hlk
    · have := lks_at kids 0 hlk j t ht
      rwa [if_neg (by omega)] at this
  obtain ⟨n, hn⟩ : ∃ n, n = kids.length := ⟨_, rfl⟩
  have HN := hid hn
  rw [← hn] at f4
  have hn4 : n ≤ 4000 := by rw [hn]; rcases HSH.out with h | h | h | h | h | h | h <;> omega
  have hV1 : V < w1.heap.size := HE1.out.lt
  have HFN := hid (fun W e => HFD.out w1 W HC1.out e)
  clear hq hn
  go_wp2_with fail
  refine wp_region_still_lit hmx (by kernel_rfl) ?_
  (repeat still_step)
  still_call (HFN.out _ rfl)
  (repeat still_step)
  refine wpStill_nil ?_
  go_wp2_with fail
  go_loopw [11, 12] (fun v iv wr => ∃ (j : Nat) (zs : List Int) (rj : ER (List (List UInt8 × Int))), j ≤ n ∧ iv = .int .i64 j ∧ zs.length = j ∧ Hid (wr.ownsRow w1.heap.size 3 1 v zs.length (zs.map (Value.int .i64))) ∧ Hid (Fr V w1 wr) ∧ Hid (EW wr V p a nf c fuel rj) ∧ Hid (∀ i, 0 ≤ zat zs i ∧ zat zs i < (p : Int)) ∧ Hid (rj = evA (fun t k => evl p fs fuel R t sc k) (g.more.take j) (kids.take j) [] (k + 1)) ∧ Hid (∀ own kk, rj = .val own kk → mnS p g.more zs j = own)) (fun _ iv _ => n - (intOf iv).toNat)
  case atStart => exact ⟨0, [], .val [] (k + 1), Nat.zero_le _, rfl, rfl, World.ownsRow_nil _ _ _ _, (Fr.refl V w1).drew, ⟨HE1.out, by have := HKF.out; omega⟩, (fun i => by have := HP3.out; simp [zat]; omega), rfl, (fun own kk h => by injection h)⟩
  case round =>
    obtain ⟨j, zs, rj, hj, rfl, hzl, HO, HG, HM, HZB, HRJ, HVJ⟩ := hrel
    have b4 : wr.cell? ⟨b, 4, none⟩ = some (.slice ax n cx) := by
      have := HXB.out _ (HF1.out.trans HG.out)
      rw [← HN.out] at this
      simp [World.cell?, this]
    by_cases hlt : j < n
    · have hlt2 : (j : Int) < (n : Int) := by omega
      have hj0 : (0 : Int) ≤ (j : Int) := by omega
      have hks : IntKind.i64.wrap ((j : Int) + 1) = (j : Int) + 1 := by rw [IntKind.wrap_i64]; omega
      obtain ⟨t, ht⟩ : ∃ t, kids[j]? = some t := ⟨_, List.getElem?_eq_getElem (by have := HN.out; omega)⟩
      obtain ⟨x, hx⟩ : ∃ x, g.more[j]? = some x := ⟨_, List.getElem?_eq_getElem (by have := HN.out; have := HGM.out; omega)⟩
      obtain ⟨gk, vb, rfl, hcg, hxt, htt⟩ := HKK.out wr (HF1.out.trans HG.out) j t ht
      have HS : Hid (evA (fun t k => evl p fs fuel R t sc k) (g.more.take (j + 1)) (kids.take (j + 1)) [] (k + 1) = rj.bind fun own k => (evl p fs fuel R t sc k).bind fun v k2 => .val ((x.1, v) :: own) k2) := by
        unfold Hid
        rw [take_snoc hx, take_snoc ht, evA_app _ _ _ _ _ _ _ (by rw [List.length_take, List.length_take, HGM.out]), ← HRJ.out]
        rfl
      have hne : (rj.bind fun _ k => evl p fs fuel R t sc k) ≠ .out := fun e => by
        have h1 : evA (fun t k => evl p fs fuel R t sc k) (g.more.take (j + 1)) (kids.take (j + 1)) [] (k + 1) = .out := by
          rw [HS.out]
          cases rj with
          | out => rfl
          | stop er => cases e
          | val own kk =>
            show (evl p fs fuel R t sc kk).bind _ = _
            rw [show evl p fs fuel R t sc kk = .out from e]
            rfl
        have h2 := HQ2.out
        rw [← List.take_append_drop (j + 1) g.more, ← List.take_append_drop (j + 1) kids, evA_app _ _ _ _ _ _ _ (by rw [List.length_take, List.length_take, HGM.out]), h1] at h2
        exact HRO.out h2
      have HC := hid (HIH.out _ rj t sc _ _ wr HM.out (HC1.out.fr HG.out) hxt htt (HV1.out.fr HG.out) HSB.out (HLK2.out j t ht) hne)
      have HX := hid hx
      have HT := hid ht
      clear hx ht hxt htt hne
      go_wp2_with fail
      refine HC.out.mono ?_
      rintro en w2 ⟨z, rfl, hzb, hf, hm, hv⟩
      have hown := ownsRow_fr HO.out hf hV1
      have HG2 := hid (HG.out.trans hf)
      have HM2 := hid hm
      have HV2 := hid hv
      have hs2 : w1.heap.size ≤ w2.heap.size := HG2.out.size
      have HOL := hid hown
      clear hf hm hv HC hcg b4
      go_wp2_with (at_builtin; refine wpList_append_own _ rfl _ _ 22 rfl w1.heap.size 3 i0 (.int .i64 0) 1 8 Tryz.underlying22 hi hz0 hz1 hz2 rfl (by decide) _ _ _ rfl (hown.alloc _) ⟨w2.heap.size, 0, none⟩ 1 1 [.int .i64 z] rfl rfl ?c1 ?c2 ?c3 ?c4 ?c5 ?_)
      case c1 =>
        intro j u hj
        match j, hj with
        | 0, hj => simp at hj; subst hj; simp [Addr.add]
      case c2 => intro u hu; simp at hu; subst hu; rfl
      case c3 => unfold maxLen; omega
      case c4 => omega
      case c5 => simp; omega
      intro v' w5 hown2 hgrow _
      rw [← hzl] at hown2
      have hown3 := owns_succ hown2
      have hB5 : Below w1.heap.size w2 w5 := ((Below.refl w1.heap.size w2).alloc hs2 _).grown hgrow (by simp; omega) (fun k hk => (HOL.out.lt k hk).1)
      have HB5 := hid hB5
      have HO5 := hid hown3
      clear hown2 hown3 hgrow hown hB5
      go_wp2_with fail
      go_roundw
      case rel =>
        refine ⟨j + 1, zs ++ [z], rj.bind fun own k => (evl p fs fuel R t sc k).bind fun v k2 => .val ((x.1, v) :: own) k2, by omega, by go_num, by simp [hzl], HO5, HG2.out.more2 HB5.out hV1, ?_, ?_, HS.out.symm, ?_⟩
        · refine EW.of (HM2.out.keep (HB5.out.block _ hV1)) ?_
          cases rj with
          | out => rfl
          | stop er => rfl
          | val own kk =>
            show ((evl p fs fuel R t sc kk).bind _).bind _ = (evl p fs fuel R t sc kk).bind _
            rw [ER.bind_bind]
            rfl
        · intro i
          rcases Nat.lt_or_ge i zs.length with h | h
          · rw [zat_left zs z h]; exact HZB.out i
          · rcases Nat.lt_or_ge zs.length i with h' | h'
            · have : zat (zs ++ [z]) i = 0 := by unfold zat; rw [List.getElem?_eq_none (by simp; omega)]; rfl
              rw [this]; have := HP3.out; omega
            · obtain rfl : i = zs.length := by omega
              rw [zat_last]; exact hzb
        · intro own kk h
          obtain ⟨own1, k1, h1, h2⟩ := ER.bind_val h
          obtain ⟨y, k2, h5, h6⟩ := ER.bind_val h2
          injection h6 with h6 _
          subst h6
          have h7 := HV2.out y k2 (by rw [h1]; exact h5)
          subst h7
          rw [mnS, HX.out, mnS_app p g.more zs z j (by omega), HVJ.out own1 k1 h1]
          show (x.1, zat (zs ++ [z]) j % (p : Int)) :: own1 = _
          rw [show j = zs.length from hzl.symm, zat_last, Int.emod_eq_of_lt hzb.1 hzb.2]
      case measure => simp [intOf]; omega
    · obtain rfl : j = n := by omega
      have hlt2 : ¬ (j : Int) < (j : Int) := by omega
      obtain ⟨aa, ca, rfl, hrow⟩ := owns_rowp HO.out hV1
      have hq3 : q = rj.bind fun _ k => evl p fs fuel R g.body (mnS p g.more zs g.more.length) k := by
        have h2 := HQ2.out
        have h5 := HRJ.out
        rw [List.take_of_length_le (by have := HN.out; have := HGM.out; omega), List.take_of_length_le (by have := HN.out; omega)] at h5
        rw [← h5, ER.bind_is (z := mnS p g.more zs g.more.length) (fun y kk h => by rw [← HVJ.out y kk h, HGM.out, ← HN.out])] at h2
        exact h2
      have HC := hid (HCL.out rj aa ca j zs wr HM.out (HC1.out.fr HG.out) hrow (fun i => by have := HZB.out i; omega) hzl.symm (by rw [hzl, HN.out, HGM.out]) q hq3 HRO.out)
      clear hrow hq3
      go_wp2_with fail
      refine HC.out.mono ?_
      rintro en w2 ⟨z, rfl, hz, hf, hm, hv⟩
      have HE : Hid (LoE V p a nf c fuel q w (.returned (.int .i64 z)) w2) := ⟨_, rfl, hz, HF1.out.trans (HG.out.trans hf), hm, hv⟩
      clear hz hf hm hv HC
      go_wp2_with fail
      go_ret
      exact HWD.out _ _ HE.out

end Go.Proofs.YtlgcmeachjjmgajGreatDoor

namespace Go.Proofs.YtlgcmeachjjmgajGreatDoor
open Go.RowKit

set_option maxRecDepth 100000 in
set_option maxHeartbeats 1000000 in
theorem rlook_err (V p nf c fuel er : Nat) (a : Option Addr) (x v : Option Addr) (w : World) (hE : EW w V p a nf c fuel (ER.stop er : ER Int)) :
    Calls Tryz.prog 61 #[.pointer (some ⟨V, 0, none⟩), .pointer x, .pointer v] w fun e w' => e = .returned (.int .i64 0) ∧ w' = w := by
  obtain ⟨he0, k, hR⟩ := hE
  have c4 := hR.c4
  have b2 : ((er : Int) != 0) = true := by simp; omega
  clear hR he0
  go_enter Tryz.func61, Tryz.ntmps61
  go_wp2_with fail
  go_ret
  exact ⟨rfl, rfl⟩
set_option maxRecDepth 100000 in
set_option maxHeartbeats 1000000 in
theorem rlook_fuel (V p nf c fuel : Nat) (a : Option Addr) (x v : Option Addr) (w : World) (hR : ReAt w V p a nf c fuel fuel 0) :
    Calls Tryz.prog 61 #[.pointer (some ⟨V, 0, none⟩), .pointer x, .pointer v] w fun e w' => e = .returned (.int .i64 0) ∧ ReAt w' V p a nf c fuel fuel 8 ∧ Fr V w w' := by
  have c4 := hR.c4
  have c3 := hR.c3
  have c2 := hR.c2
  have y4 := hR.fz 4
  have HR := hid hR
  have qk : ((fuel : Int) == (fuel : Int)) = true := by simp
  clear hR
  go_enter Tryz.func61, Tryz.ntmps61
  go_wp2_with fail
  go_quiet (fail)
  have y4' : (w.drewN nq).frozen? ⟨V, 4, none⟩ = false := y4
  have c4' : (w.drewN nq).cell? ⟨V, 4, none⟩ = some (.int .i64 0) := c4
  go_wp2_with fail
  go_ret
  exact ⟨rfl, (show ReAt (w.drewN nq) V p a nf c fuel fuel 0 from HR.out).s4 8, (frN V nq w).set 4 _⟩

theorem lok_all (V p nf c fuel : Nat) (a : Option Addr) (fs : List FnT) (Xs : List Nat) (h3 : 3 ≤ p) (h4 : p ≤ 2147483647) (hfu : fuel ≤ 1000000) (hnf : nf = fs.length) (hnf4 : nf ≤ 4000) (hFs : FsOk fs) (hFW : ∀ g, g ∈ fs → FW g) : ∀ R, LOK V p a nf c fuel fs Xs R := by
  intro R
  induction R with
  | zero =>
    intro α r t sc x v w hE hC hX hT hV hS hL hro
    cases r with
    | out => exact hE.elim
    | val y k => exact absurd rfl hro
    | stop er =>
      obtain ⟨xb, rfl⟩ := hX.form
      obtain ⟨vq, rfl⟩ := hV.form
      refine (rlook_err V p nf c fuel er a _ vq w hE).mono ?_
      rintro en w' ⟨rfl, hw⟩
      subst hw
      exact ⟨0, rfl, by omega, Fr.refl V _, hE, fun y k h => nomatch h⟩
  | succ R ih =>
    intro α r t sc x v w hE hC hX hT hV hS hL hro
    cases r with
    | out => exact hE.elim
    | stop er =>
      obtain ⟨xb, rfl⟩ := hX.form
      obtain ⟨vq, rfl⟩ := hV.form
      refine (rlook_err V p nf c fuel er a _ vq w hE).mono ?_
      rintro en w' ⟨rfl, hw⟩
      subst hw
      exact ⟨0, rfl, by omega, Fr.refl V _, hE, fun y k h => nomatch h⟩
    | val y k =>
      obtain ⟨hR, hkf⟩ := hE
      obtain ⟨kd, nm, at', nn, kids⟩ := t
      by_cases hk : k = fuel
      · subst hk
        obtain ⟨xb, rfl⟩ := hX.form
        obtain ⟨vq, rfl⟩ := hV.form
        refine (rlook_fuel V p nf c k a _ vq w hR).mono ?_
        rintro en w' ⟨rfl, h8, hf⟩
        have hq : ((ER.val y k : ER α).bind fun _ k' => evl p fs k (R + 1) (.node kd nm at' nn kids) sc k') = .stop 8 := by
          show evl p fs k (R + 1) (.node kd nm at' nn kids) sc k = _
          unfold evl
          rw [if_pos rfl]
        rw [hq]
        exact ⟨0, rfl, by omega, hf, ⟨by decide, _, h8⟩, fun y k h => nomatch h⟩
      · have hk : k < fuel := by omega
        have hsh := hT.1
        rcases hsh with h | h | h | h | h | h | h
        · exact rlook_num V p nf c fuel R k a fs Xs h3 h4 hfu hnf hnf4 hFs hFW ih kd nm at' nn kids sc x v w hR hk hC hX hT hV hS hL _ rfl hro h.1
        · exact rlook_name V p nf c fuel R k a fs Xs h3 h4 hfu hnf hnf4 hFs hFW ih kd nm at' nn kids sc x v w hR hk hC hX hT hV hS hL _ rfl hro h.1
        · exact rlook_call V p nf c fuel R k a fs Xs h3 h4 hfu hnf hnf4 hFs hFW ih kd nm at' nn kids sc x v w hR hk hC hX hT hV hS hL _ rfl hro h.1
        · exact rlook_neg V p nf c fuel R k a fs Xs h3 h4 hfu hnf hnf4 hFs hFW ih kd nm at' nn kids sc x v w hR hk hC hX hT hV hS hL _ rfl hro h.1
        · exact rlook_sign V p nf c fuel R k a fs Xs h3 h4 hfu hnf hnf4 hFs hFW ih kd nm at' nn kids sc x v w hR hk hC hX hT hV hS hL _ rfl hro ⟨h.1, h.2.1⟩
        · exact rlook_let V p nf c fuel R k a fs Xs h3 h4 hfu hnf hnf4 hFs hFW ih kd nm at' nn kids sc x v w hR hk hC hX hT hV hS hL _ rfl hro h.1
        · by_cases h10 : kd = 10
          · exact rlook_need V p nf c fuel R k a fs Xs h3 h4 hfu hnf hnf4 hFs hFW ih kd nm at' nn kids sc x v w hR hk hC hX hT hV hS hL _ rfl hro h10
          · exact rlook_if V p nf c fuel R k a fs Xs h3 h4 hfu hnf hnf4 hFs hFW ih kd nm at' nn kids sc x v w hR hk hC hX hT hV hS hL _ rfl hro (by omega)

end Go.Proofs.YtlgcmeachjjmgajGreatDoor
