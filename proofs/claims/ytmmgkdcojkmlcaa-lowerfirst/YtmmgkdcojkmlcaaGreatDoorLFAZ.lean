/- The reference of programs as text: Parse. The reference of programs as text: how many parts a program has. Package lower: the code, plainly. Package machine: cells that are told, as a map; look, tell, must, one. Package machine: next. -/
import Derived.Test.YtmmgkdcojkmlcaaGreatDoorLFAY
import Derived.Test.YtmmgkdcojkmlcaaGreatDoorLFAX
import Derived.Test.YtmmgkdcojkmlcaaGreatDoorLFAR
import Derived.Test.YtmmgkdcojkmlcaaGreatDoorLFAM
import Derived.Maps.OwnOps
import Derived.Maps.OwnSet
import Derived.WalkLawsBesides
import Derived.StillTailTactics
namespace Go.Proofs.YtmmgkdcojkmlcaaGreatDoor
open Go.RowKit

/-- how the reference's Parse ends -/
def RpE (T : ByteArray) (w : World) (e : Ending) (w' : World) : Prop := Below w.heap.size w w' ∧
  if 4000 < T.size then e = .returned (.tuple #[.slice none 0 0, .int .i64 0, .int .i64 9])
  else match prs T with
  | .ok fs _ => ∃ a c Xs, e = .returned (.tuple #[.slice a fs.length c, .int .i64 0, .int .i64 0]) ∧ RFl w.heap.size w' a fs Xs
  | .bad er at' => e = .returned (.tuple #[.slice none 0 0, .int .i64 (at' : Nat), .int .i64 (er : Nat)]) ∧ er ≠ 0
  | .out => False
/-- a function of the reference in memory: B holds of each of its blocks -/
def RFnB (B : Nat → Prop) (w : World) (g : FnT) (X : Nat) : Prop := ∃ am cm aw cw pb, B X ∧ w.heap[X]? = some (.cells #[.string (bs g.name), .int .i64 (g.at' : Int), .slice am g.more.length cm, .slice aw g.more.length cw, .pointer pb] 51 (0, 0)) ∧ (g.more.length ≤ cm ∧ (am = none → g.more.length = 0 ∧ cm = 0)) ∧ XTB B w g.body (.pointer pb) ∧
  (∀ i x, g.more[i]? = some x → ∃ k, am = some ⟨k, 0, none⟩ ∧ B k ∧ w.cell? ⟨k, i, none⟩ = some (.string (bs x.1))) ∧ (∀ i x, g.more[i]? = some x → ∃ k, aw = some ⟨k, 0, none⟩ ∧ B k ∧ w.cell? ⟨k, i, none⟩ = some (.int .i64 (x.2 : Int)))
theorem RFnB.keep {B B' : Nat → Prop} {w w' : World} {g : FnT} {X : Nat} (h : RFnB B w g X) (hk : ∀ b, B b → b < w.heap.size → B' b ∧ w'.heap[b]? = w.heap[b]?) : RFnB B' w' g X := by
  obtain ⟨am, cm, aw, cw, pb, h1, h2, hcm, h3, h4, h5⟩ := h
  obtain ⟨q1, q2⟩ := hk X h1 (Array.getElem?_eq_some_iff.1 h2).1
  refine ⟨am, cm, aw, cw, pb, q1, q2.trans h2, hcm, XTB.keep hk _ _ h3, fun i x hx => ?_, fun i x hx => ?_⟩
  · obtain ⟨k, k1, k2, k3⟩ := h4 i x hx
    obtain ⟨q3, q4⟩ := hk k k2 (World.block_lt_of_cell? _ _ k3)
    exact ⟨k, k1, q3, (World.cell?_of_block (a := ⟨k, i, none⟩) q4).trans k3⟩
  · obtain ⟨k, k1, k2, k3⟩ := h5 i x hx
    obtain ⟨q3, q4⟩ := hk k k2 (World.block_lt_of_cell? _ _ k3)
    exact ⟨k, k1, q3, (World.cell?_of_block (a := ⟨k, i, none⟩) q4).trans k3⟩
theorem RFnB.lt {B : Nat → Prop} {w : World} {g : FnT} {X : Nat} (h : RFnB B w g X) : X < w.heap.size := by
  obtain ⟨am, cm, aw, cw, pb, h1, h2, _⟩ := h
  exact (Array.getElem?_eq_some_iff.1 h2).1
/-- functions read, in a row of the call's own -/
structure RgRowP (base : Nat) (w : World) (v : Value) (gs : List FnT) (Xs : List Nat) : Prop where
  own : w.ownsRow base 46 1 v gs.length (Xs.map fun X => .pointer (some ⟨X, 0, none⟩))
  len : Xs.length = gs.length
  fn : ∀ (i : Nat) (g : FnT) (X : Nat), gs[i]? = some g → Xs[i]? = some X → RFnB (fun b => base ≤ b ∧ some b ≠ v.ownBlock) w g X
  nd : Nodup' Xs
theorem RgRowP.push {base : Nat} {W w2 : World} {v v' : Value} {gs : List FnT} {Xs : List Nat} {g : FnT} {X : Nat} (h : RgRowP base W v gs Xs) (hg : RFnB (fun b => base ≤ b ∧ some b ≠ v.ownBlock) W g X) (hX : ∀ Y, Y ∈ Xs → Y < X) (ho : w2.ownsRow base 46 1 v' (gs.length + 1) ((Xs.map fun X => .pointer (some ⟨X, 0, none⟩)) ++ [.pointer (some ⟨X, 0, none⟩)])) (hgr : W.grownBy w2 v.ownBlock) (hw : v'.ownBlock = v.ownBlock ∨ v'.ownBlock = some W.heap.size) : RgRowP base w2 v' (gs ++ [g]) (Xs ++ [X]) := by
  have hk : ∀ b, (base ≤ b ∧ some b ≠ v.ownBlock) → b < W.heap.size → (base ≤ b ∧ some b ≠ v'.ownBlock) ∧ w2.heap[b]? = W.heap[b]? := fun b hB hl => by
    refine ⟨⟨hB.1, ?_⟩, hgr.block b hl hB.2⟩
    rcases hw with e | e
    · rw [e]; exact hB.2
    · rw [e]; intro e2; injection e2; omega
  refine ⟨by rw [List.length_append, List.map_append]; exact ho, by simp [h.len], fun i x Y hx hY => ?_, fun i j Y hi hj => ?_⟩
  · rcases Nat.lt_or_ge i gs.length with hi | hi
    · rw [List.getElem?_append_left hi] at hx
      rw [List.getElem?_append_left (by rw [h.len]; exact hi)] at hY
      exact (h.fn i x Y hx hY).keep hk
    · have hi2 : i = gs.length := by
        have : i < (gs ++ [g]).length := (List.getElem?_eq_some_iff.1 hx).1
        simp at this
        omega
      subst hi2
      simp at hx
      rw [← h.len] at hY
      simp at hY
      subst hx hY
      exact hg.keep hk
  · have key : ∀ (i : Nat) Y, (Xs ++ [X])[i]? = some Y → (i < Xs.length ∧ Xs[i]? = some Y) ∨ (i = Xs.length ∧ Y = X) := fun i Y hi => by
      rcases Nat.lt_or_ge i Xs.length with g | g
      · rw [List.getElem?_append_left g] at hi; exact Or.inl ⟨g, hi⟩
      · have : i < (Xs ++ [X]).length := (List.getElem?_eq_some_iff.1 hi).1
        simp at this
        have e : i = Xs.length := by omega
        subst e
        simp at hi
        exact Or.inr ⟨rfl, hi.symm⟩
    rcases key i Y hi with ⟨a1, a2⟩ | ⟨a1, a2⟩ <;> rcases key j Y hj with ⟨b1, b2⟩ | ⟨b1, b2⟩
    · exact h.nd i j Y a2 b2
    · have := hX Y (List.mem_of_getElem? a2); omega
    · have := hX Y (List.mem_of_getElem? b2); omega
    · omega
/-- what is read, and its names checked -/
def prsOf (n : Nat) : Res (List FnT) → Res (List FnT)
  | .ok fs j => match ckn fs n with
    | none => .ok fs j
    | some e => .bad e.1 e.2
  | .bad e a => .bad e a
  | .out => .out
theorem prsOf_none {n j : Nat} {fs : List FnT} (h : ckn fs n = none) : prsOf n (.ok fs j) = .ok fs j := by
  unfold prsOf
  simp only [h]
theorem prsOf_some {n j : Nat} {fs : List FnT} {e : Nat × Nat} (h : ckn fs n = some e) : prsOf n (.ok fs j) = .bad e.1 e.2 := by
  unfold prsOf
  simp only [h]
theorem prs_of (T : ByteArray) : prs T = prsOf T.size (pProg (by' T) (4 * T.size + 1) [] 0) := by
  unfold prs pRes prsOf
  rw [by_len]
  cases pProg (by' T) (4 * T.size + 1) [] 0 <;> rfl
/-- what stands in Parse's loop -/
structure PInv (R : Nat) (T : ByteArray) (W1 : World) (q0 : Res (List FnT)) (v : Value) (wr : World) : Prop where
  fr : Fr R W1 wr
  st : (∃ gs Xs p g, RgW wr R T (.ok gs p : Res (List FnT)) 0 ∧ q0 = pProg (by' T) g gs p ∧ gs.length ≤ p ∧ p ≤ T.size ∧ RgRowP W1.heap.size wr v gs Xs) ∨
       (∃ e a n vals, q0 = .bad e a ∧ RgF wr R T e a ∧ wr.ownsRow W1.heap.size 46 1 v n vals)

set_option maxRecDepth 100000 in
set_option maxHeartbeats 4000000 in
theorem rparse_any (T : ByteArray) (w : World) (hTm : T.size ≤ 281474976710656) : Calls Tryz.prog 11 #[.string T] w (RpE T w) := by
  have hmx : Tryz.prog.follows .mixedOrders = true := by kernel_rfl
  have HWD : Hid (∀ e w', RpE T w e w' → RpE T w e w') := fun _ _ h => h
  by_cases h40 : 4000 < T.size
  · have q4 : (4000 : Int) < (T.size : Int) := by omega
    have HE : Hid (RpE T w (.returned (.tuple #[.slice none 0 0, .int .i64 0, .int .i64 9])) w) := ⟨Below.refl _ _, by rw [if_pos h40]⟩
    clear h40
    go_enter Tryz.func11, Tryz.ntmps11
    go_wp2_with fail
    go_ret3
    exact HWD.out _ _ HE.out
  · have q4 : ¬ (4000 : Int) < (T.size : Int) := by omega
    have hT : T.size ≤ 4000 := by omega
    obtain ⟨q0, hq0⟩ : ∃ q0, q0 = pProg (by' T) (4 * T.size + 1) [] 0 := ⟨_, rfl⟩
    have hn0 : q0 ≠ .out := fun e => by
      have := pProg_fw (by' T) (4 * T.size + 1) [] 0 (Nat.zero_le _) (by rw [by_len]; omega)
      rw [← hq0, e] at this
      exact this.elim
    have hal := pProg_al (by' T) (by rw [by_len]; exact hT) (4 * T.size + 1) [] 0 (by simp) (Nat.le_refl _) (Nat.zero_le _)
    have hsz := pProg_sz (by' T) (4 * T.size + 1) [] 0 (Nat.zero_le _)
    rw [← hq0] at hal hsz
    have HAL := hid hal
    have HSZ := hid hsz
    have hps := prs_of T
    rw [← hq0] at hps
    have HPS := hid hps
    have H40 := hid h40
    have HQ0 := hid hq0
    have HN0 := hid hn0
    have HT := hid hT
    obtain ⟨W1, hW1⟩ : ∃ W1, w.alloc (.cells #[.string T, .int .i64 0, .string ⟨#[]⟩, .int .i64 0, .int .i64 0, .int .i64 0] 77) = W1 := ⟨_, rfl⟩
    have hb1 : Below w.heap.size w W1 := by rw [← hW1]; exact (Below.refl _ _).alloc (Nat.le_refl _) _
    have hr1 : RgR W1 w.heap.size T 0 ⟨#[]⟩ 0 0 0 := by rw [← hW1]; exact heap_alloc_new w _
    obtain ⟨R, hR⟩ : ∃ R, R = w.heap.size := ⟨_, rfl⟩
    have HRR := hid hR
    rw [← hR] at hr1
    have HNX := hid (rnext_any R 0 T ⟨#[]⟩ 0 0 W1 hr1 (Nat.zero_le _) hT)
    have HB1 := hid hb1
    have HRL : Hid (R < W1.heap.size) := hr1.lt
    obtain ⟨iF, hi, hz0, hz1, hz2⟩ := info_parts (show (Tryz.prog.info? 46).map (fun i => (i.zero, i.size, i.bytes)) = some (some (.pointer none), 1, 8) by kernel_rfl)
    have HIF := hid (And.intro hi (And.intro hz0 (And.intro hz1 hz2)))
    clear hq0 hn0 hal hsz hps hb1 hr1 h40 hi hz0 hz1 hz2
    go_enter Tryz.func11, Tryz.ntmps11
    go_wp2_with fail
    rw [← hR]
    clear hW1 hR
    refine HNX.out.mono ?_
    rintro e w1 ⟨rfl, hf1, hr1⟩
    have HI1 : Hid (PInv R T W1 q0 (.slice none 0 0) w1) := by
      refine ⟨hf1, Or.inl ⟨[], [], 0, 4 * T.size + 1, ?_, HQ0.out, Nat.zero_le _, Nat.zero_le _, World.ownsRow_nil _ _ _ _, rfl, fun i g X hg => by simp at hg, fun i j X hi => by simp at hi⟩⟩
      cases hb : tkb (by' T) 0 with
      | true =>
        rw [hb] at hr1
        exact Or.inr ⟨tkb_kind hb, by decide, _, _, _, hr1⟩
      | false =>
        rw [hb] at hr1
        exact Or.inl ⟨hr1, hb, Nat.zero_le _, hT, Nat.zero_le _⟩
    clear hf1 hr1 HNX
    go_wp2_with fail
    go_loopw [6] (fun v wr => ∃ (a : Option Addr) (n c : Nat), v = .slice a n c ∧ Hid (PInv R T W1 q0 (.slice a n c) wr)) (fun _ wr => rgm R T wr)
    case atStart => exact ⟨none, 0, 0, rfl, HI1⟩
    case round =>
      obtain ⟨a, n, c, rfl, hI⟩ := hrel
      clear HI1
      obtain ⟨hfr, hst⟩ := hI.out
      have HFR := hid hfr
      have hBW : Below w.heap.size w wr := ⟨hfr.1.os.trans HB1.out.os, hfr.1.tape.trans HB1.out.tape, hfr.1.output.trans HB1.out.output, Nat.le_trans HB1.out.size hfr.size, fun b hb => (hfr.2 b (by have := HB1.out.size; omega) (by have := HRR.out; omega)).trans (HB1.out.block b hb)⟩
      have HBW := hid hBW
      clear hI hBW
      rcases hst with ⟨gs, Xs, p, g, hm, hq, hlen, hp, hrow⟩ | ⟨e, a', n', vals, hq, hfa, hown⟩
      case' inr =>
        have HQB := hid hq
        have HFA := hid hfa
        clear hq hfa hown hfr
      case' inl =>
        rcases hm.cases with ⟨gs', p', he, hg⟩ | ⟨e, a', hfa, hr⟩
        case' inr =>
          have hq5 : q0 = .bad e a' := by
            rcases hr with h | ⟨x', j', h, h0, rfl, rfl⟩
            · cases h
            · injection h with _ h
              subst h
              cases g with
              | zero => rw [pProg] at hq; exact absurd hq HN0.out
              | succ g =>
                rw [hq, pProg, if_neg (by omega)]
                unfold pFun pTake
                rw [if_neg (by omega)]
                rfl
          have HQB := hid hq5
          have HFA := hid hfa
          clear hq hfa hr hq5 hm hrow hlen hp hfr
        case' inl =>
          injection he with he1 he2
          subst he1 he2
          have c4 := hg.h.c4
          have c2 := hg.h.c2
          have hgx : ∃ g', q0 = pProg (by' T) (g' + 1) gs p := by
            cases g with
            | zero => rw [pProg] at hq; exact absurd hq HN0.out
            | succ g' => exact ⟨g', hq⟩
          obtain ⟨g', hq'⟩ := hgx
          rw [pProg] at hq'
          have hte := tok_end (by' T) p (by rw [by_len]; exact hp)
          by_cases hk1 : (tok (by' T) p).kind = 1
          case' pos =>
            have t0 : ((bs (tok (by' T) p).text).toList == []) = true := by rw [bs_list, hte.1 hk1]; rfl
            rw [if_pos hk1] at hq'
            have HQ' := hid hq'
            have HROW := hid hrow
            generalize bs (tok (by' T) p).text = tx at *
            have hnl : n = gs.length := by
              obtain ⟨a9, c9, e9⟩ := ownsRow_form hrow.own
              injection e9
            have hrf : RFl w.heap.size wr a gs Xs := by
              have h1 : RFl W1.heap.size wr a gs Xs := ⟨hrow.len, fun i x Y hx hY => ⟨by
                have h2 := hrow.own
                rw [← hnl] at h2
                obtain ⟨k, k1, k2, k3⟩ := ownsRow_at h2 i (.pointer (some ⟨Y, 0, none⟩)) (by rw [List.getElem?_map, hY]; rfl)
                exact ⟨k, k1, k2, k3⟩, (hrow.fn i x Y hx hY).keep (fun b hB _ => ⟨hB.1, rfl⟩)⟩⟩
              exact h1.keep HB1.out.size (fun _ _ _ => rfl)
            have hal := HAL.out
            have hsz := HSZ.out
            rw [hq'] at hal hsz
            obtain ⟨⟨_, hpl⟩, hfw, hgl⟩ := hal
            rw [by_len] at hpl
            have hsz2 := hsz gs p rfl
            have hw0 : pwgt [] = 0 := rfl
            rw [hw0] at hsz2
            have hn4 : gs.length ≤ 4000 := by have := HT.out; omega
            have HNM := hid (rnames_any w.heap.size c a gs Xs wr hrf hrow.nd hfw (fun g hg => by have := pwgt_mem hg; unfold fsz at this; have := HT.out; omega) hn4)
            have HFD := hid (fun (V : World) (hV : Below wr.heap.size wr V) => rgfind_any w.heap.size c a gs Xs ⟨#[109, 97, 105, 110]⟩ V (hrf.below hV) (by omega))
            have hmw : by' ⟨#[109, 97, 105, 110]⟩ = mainW := rfl
            rw [hmw] at HFD
            have HRF := hid hrf
            have HNL := hid hnl
            rw [← hnl] at HNM HFD
            clear hq hq' hte hk1 hm hg hrow hfr hrf hsz hpl hfw hgl hsz2 hw0 hn4 hnl hmw hlen hp
            go_wp2_with fail
            refine HNM.out.mono ?_
            rintro e w3 ⟨hb3, he⟩
            have HB3 := hid (HBW.out.trans (hb3.mono HBW.out.size))
            have HC3 := hid (HFD.out w3 hb3)
            have HR3 := hid (HRF.out.below hb3)
            cases ho : ckl gs gs 0 with
            | some y =>
              rw [ho] at he
              obtain ⟨he, hy⟩ := he
              subst he
              have q0' : ((y.1 : Int) != 0) = true := by simp; omega
              have HE : Hid (RpE T w (.returned (.tuple #[.slice none 0 0, .int .i64 (y.2 : Nat), .int .i64 (y.1 : Nat)])) w3) := ⟨HB3.out, by
                rw [if_neg H40.out, HPS.out, HQ'.out]
                rw [prsOf_some (e := y) (by unfold ckn; rw [ho])]
                exact ⟨rfl, hy⟩⟩
              generalize ((y.1 : Nat) : Int) = y1 at *
              generalize ((y.2 : Nat) : Int) = y2 at *
              clear hb3 ho hy HNM HFD
              go_wp2_with fail
              go_ret3
              exact HWD.out _ _ HE.out
            | none =>
              rw [ho] at he
              have he : e = .returned (.tuple #[.int .i64 0, .int .i64 0]) := he
              subst he
              have HCN : Hid (ckn gs T.size = if gs.any (fun h => h.name == mainW) then none else some (6, T.size)) := by unfold Hid ckn; rw [ho]
              clear hb3 ho HNM HFD
              go_wp2_with fail
              refine HC3.out.mono ?_
              rintro e w4 ⟨hw4, hfd⟩
              have hw5 := hw4.symm
              subst hw5
              rcases hfd with ⟨h0, rfl⟩ | ⟨k, X, h1, h2, rfl⟩
              · have HE : Hid (RpE T w (.returned (.tuple #[.slice none 0 0, .int .i64 (T.size : Nat), .int .i64 6])) w3) := ⟨HB3.out, by
                  rw [if_neg H40.out, HPS.out, HQ'.out]
                  have hnone : ¬ gs.any (fun h => h.name == mainW) = true := by
                    intro hany
                    rw [List.any_eq_true] at hany
                    obtain ⟨x, hx, hn⟩ := hany
                    unfold fnd at h0
                    rw [List.findIdx?_eq_none_iff] at h0
                    have := h0 x hx
                    rw [this] at hn
                    cases hn
                  rw [prsOf_some (e := (6, T.size)) (by rw [HCN.out, if_neg hnone])]
                  exact ⟨rfl, by show (6 : Nat) ≠ 0; decide⟩⟩
                clear h0
                go_wp2_with fail
                go_ret3
                exact HWD.out _ _ HE.out
              · have HE : Hid (RpE T w (.returned (.tuple #[.slice a n c, .int .i64 0, .int .i64 0])) w3) := ⟨HB3.out, by
                  rw [if_neg H40.out, HPS.out, HQ'.out]
                  have hany : gs.any (fun h => h.name == mainW) = true := by
                    unfold fnd at h1
                    rw [List.findIdx?_eq_some_iff_getElem] at h1
                    obtain ⟨h3, h4, _⟩ := h1
                    rw [List.any_eq_true]
                    exact ⟨gs[k], List.getElem_mem h3, h4⟩
                  rw [prsOf_none (by rw [HCN.out, if_pos hany])]
                  exact ⟨a, c, Xs, by rw [HNL.out], HR3.out⟩⟩
                clear h1 h2
                go_wp2_with fail
                go_ret3
                exact HWD.out _ _ HE.out
          case' neg =>
            have t0 : ((bs (tok (by' T) p).text).toList == []) = false := by rw [bs_list]; simp; exact fun e => hk1 (hte.2 e)
            rw [if_neg hk1] at hq'
            have hnf : pFun (by' T) g' p ≠ .out := Res.out_bind (by rw [← hq']; exact HN0.out)
            have HFN := hid (rfun_any R T g' p wr hg _ rfl hnf)
            have HNXF := hid (fun (g : FnT) (j : Nat) (h : pFun (by' T) g' p = .ok g j) => And.intro (pFun_nx h (by rw [by_len]; exact hp)) ((pFun_fx (by' T) g' p (by rw [by_len]; exact hp)).gt h))
            have HQ' := hid hq'
            have HROW := hid hrow
            have HP := hid (And.intro hlen hp)
            have HGM := hid hg.rgm
            have HTA := hid ((tok_at (by' T) p (by rw [by_len]; exact hp)).2.2.1)
            have hnl : n = gs.length := by
              obtain ⟨a9, c9, e9⟩ := ownsRow_form hrow.own
              injection e9
            have HNL := hid hnl
            generalize bs (tok (by' T) p).text = tx at *
            clear hq hq' hte hk1 hm hg hrow hfr hlen hp hnl
            go_wp2_with fail
            refine HFN.out.mono ?_
            rintro e w3 ⟨X, rfl, hf3, hm3, hF3⟩
            have hbR : R < W1.heap.size := HRL.out
            have hown3 := ownsRow_fr HROW.out.own hf3 hbR
            have hrow3 : RgRowP W1.heap.size w3 (.slice a n c) gs Xs := ⟨hown3, HROW.out.len, fun i x Y hx hY => (HROW.out.fn i x Y hx hY).keep (fun b hB hl => ⟨hB, hf3.2 b hl (by have := hB.1; omega)⟩), HROW.out.nd⟩
            obtain ⟨WA, hWA⟩ : ∃ WA, WA = w3.alloc (.cells #[.pointer (some ⟨X, 0, none⟩)] 46) := ⟨_, rfl⟩
            have hbA : Below w3.heap.size w3 WA := by rw [hWA]; exact (Below.refl _ _).alloc (Nat.le_refl _) _
            have hfA : Fr R w3 WA := Fr.below hbA (Nat.le_of_lt hm3.lt)
            have hrowA : RgRowP W1.heap.size WA (.slice a n c) gs Xs := ⟨ownsRow_fr hown3 hfA hbR, hrow3.len, fun i x Y hx hY => (hrow3.fn i x Y hx hY).keep (fun b hB hl => ⟨hB, hbA.block b hl⟩), hrow3.nd⟩
            have hgl : ∀ k, (Value.slice a n c).ownBlock = some k → W1.heap.size ≤ k ∧ k < wr.heap.size := fun k e => HROW.out.own.lt k e
            have hsW : W1.heap.size ≤ wr.heap.size := HFR.out.size
            have HFB : Hid (∀ g j, pFun (by' T) g' p = .ok g j → RFnB (fun b => W1.heap.size ≤ b ∧ some b ≠ (Value.slice a n c).ownBlock) WA g X ∧ wr.heap.size ≤ X) := fun g j h => by
              have h1 : RFnB (fun b => wr.heap.size ≤ b) w3 g X := hF3 g j h
              refine ⟨h1.keep (fun b hB hl => ⟨⟨by omega, fun e => by have := hgl b e.symm; omega⟩, hbA.block b hl⟩), ?_⟩
              obtain ⟨_, _, _, _, _, h2, _⟩ := h1
              exact h2
            have HXL : Hid (∀ Y, Y ∈ Xs → Y < wr.heap.size) := fun Y hY => by
              obtain ⟨i, hi⟩ := List.getElem?_of_mem hY
              have hil : i < gs.length := by rw [← HROW.out.len]; exact (List.getElem?_eq_some_iff.1 hi).1
              exact (HROW.out.fn i _ Y (List.getElem?_eq_getElem hil) hi).lt
            have HMA : Hid (RgW WA R T (pFun (by' T) g' p) 0) := hm3.keep (hbA.block _ hm3.lt)
            have HRA := hid hrowA
            have HFA := hid (HFR.out.trans (hf3.trans hfA))
            have HSA : Hid (W1.heap.size ≤ w3.heap.size) := Nat.le_trans hsW hf3.size
            have HGL := hid hgl
            have HWA := hid hWA
            have HN4 : Hid (n ≤ 4000) := by unfold Hid; have := HNL.out; have := HP.out; have := HT.out; omega
            clear hf3 hm3 hF3 hown3 hrow3 hbA hfA hrowA hgl hsW hWA HFN
            go_wp2_with (at_builtin; refine wpList_append_own_at _ rfl _ _ 42 rfl W1.heap.size 46 iF (.pointer none) 1 8 Tryz.underlying42 HIF.out.1 HIF.out.2.1 HIF.out.2.2.1 HIF.out.2.2.2 rfl (by decide) (.slice a n c) n (Xs.map fun X => .pointer (some ⟨X, 0, none⟩)) rfl (by rw [← HWA.out]; have := HRA.out.own; rw [← HNL.out] at this; exact this) ⟨w3.heap.size, 0, none⟩ 1 1 [.pointer (some ⟨X, 0, none⟩)] rfl rfl (cell_one_new _ _ _) (by simp [Value.oneCell']) (by have := HN4.out; unfold maxLen; omega) (by have := HN4.out; omega) (by have := HSA.out; simp; omega) ?_; intro v' w5 hown2 hgrow _ hwhere; rw [← HWA.out] at hgrow hwhere; obtain ⟨a2, c2, hv'⟩ := ownsRow_form hown2; subst hv')
            have hR5 : w5.heap[R]? = WA.heap[R]? := hgrow.block R HMA.out.lt (fun e => by have := (HGL.out R e.symm).1; omega)
            have hF5 : Fr R W1 w5 := HFA.out.grown hgrow (fun k e => (HGL.out k e).1) hbR
            have hM5 : RgW w5 R T (pFun (by' T) g' p) 0 := HMA.out.keep hR5
            have HI5 : Hid (PInv R T W1 q0 (.slice a2 (n + 1) c2) w5 ∧ rgm R T w5 < rgm R T wr) := by
              cases hc : pFun (by' T) g' p with
              | out => exact absurd hc hnf
              | bad e a' =>
                have hq := HQ'.out
                rw [hc] at hq hM5
                refine ⟨⟨hF5, Or.inr ⟨e, a', _, _, hq, hM5, hown2⟩⟩, ?_⟩
                rw [HGM.out]
                exact rgm_lt hM5 (fun x j h => by cases h) (by have := HTA.out; rw [by_len] at this; exact this)
              | ok gg j =>
                have hq := HQ'.out
                rw [hc] at hq hM5
                obtain ⟨hfb, hXge⟩ := HFB.out gg j hc
                obtain ⟨nx1, nx2, nx3⟩ := HNXF.out gg j hc
                rw [by_len] at nx3
                have hpush : RgRowP W1.heap.size w5 (.slice a2 (n + 1) c2) (gs ++ [gg]) (Xs ++ [X]) := HRA.out.push hfb (fun Y hY => by have := HXL.out Y hY; omega) (by rw [← HNL.out]; exact hown2) hgrow hwhere
                refine ⟨⟨hF5, Or.inl ⟨gs ++ [gg], Xs ++ [X], j, g', hM5.of rfl, hq, ?_, nx3, hpush⟩⟩, ?_⟩
                · have := HP.out.1
                  rw [List.length_append]
                  show gs.length + 1 ≤ j
                  omega
                · rw [HGM.out]
                  exact rgm_lt hM5 (fun x j' h => by injection h with _ h; subst h; omega) (by have := HTA.out; rw [by_len] at this; exact this)
            clear hR5 hF5 hM5 hown2 hgrow hwhere
            go_wp2_with fail
            go_roundw
            case rel => exact ⟨a2, n + 1, c2, rfl, HI5.out.1⟩
            case measure => exact HI5.out.2
      all_goals
        obtain ⟨he, at', tk, dp, hR⟩ := HFA.out
        have c4 := hR.c4
        have c5 := hR.c5
        have q5 : ((e : Int) == 0) = false := by simp; omega
        have q6 : ((e : Int) != 0) = true := by simp; omega
        have HE : Hid (∀ nn, RpE T w (.returned (.tuple #[.slice none 0 0, .int .i64 (a' : Nat), .int .i64 (e : Nat)])) (wr.drewN nn)) := fun nn => ⟨HBW.out.trans ((belNS wr nn).mono HBW.out.size), by
          rw [if_neg H40.out, HPS.out, HQB.out]
          exact ⟨rfl, he⟩⟩
        clear hR HFA HQB
        go_wp2_with fail
        go_quiet (fail)
        go_wp2_with fail
        go_ret3
        exact HWD.out _ _ (HE.out _)

end Go.Proofs.YtmmgkdcojkmlcaaGreatDoor

namespace Go.Proofs.YtmmgkdcojkmlcaaGreatDoor
open Go.RowKit


set_option maxRecDepth 100000 in
set_option maxHeartbeats 1000000 in
theorem rparts_any (B : Nat → Prop) : ∀ (N : Nat) (t : Tr) (x : Value) (w : World), tsz t ≤ N → N ≤ 1000000 → XTB B w t x → Calls Tryz.prog 30 #[x] w fun e w' => e = .returned (.int .i64 (tsz t : Int)) ∧ w' = w := by
  intro N
  induction N with
  | zero => intro t x w h; have := tsz_pos t; omega
  | succ N ih =>
    intro t x w hN hM hX
    obtain ⟨kd, nm, at', nn, kids⟩ := t
    obtain ⟨b, ax, cx, A, rfl, hb, hh, hA, hK⟩ := hX
    rw [tsz] at hN ⊢
    have e4 : w.cell? ⟨b, 4, none⟩ = some (.slice ax kids.length cx) := by simp [World.cell?, hh]
    have HIH := hid ih
    have HK := hid hK
    have HN := hid hN
    have hlen := tszs_len kids
    obtain ⟨m, hm⟩ : ∃ m, m = kids.length := ⟨_, rfl⟩
    have HM := hid hm
    rw [← hm] at e4 hlen
    have hm6 : m ≤ 1000000 := by omega
    clear hh hK ih hN hm hA hb hlen
    go_enter Tryz.func30, Tryz.ntmps30
    go_wp2_with fail
    go_loop [3, 4] (fun nv iv => ∃ j : Nat, j ≤ m ∧ iv = .int .i64 j ∧ nv = .int .i64 ((1 + tszs (kids.take j) : Nat) : Int)) (fun _ iv => m - (intOf iv).toNat)
    case atStart => exact ⟨0, Nat.zero_le _, rfl, by simp [tszs]⟩
    case round =>
      obtain ⟨j, hj, rfl, rfl⟩ := hrel
      by_cases hlt : j < m
      · have hlt2 : (j : Int) < (m : Int) := by omega
        have hj0 : (0 : Int) ≤ (j : Int) := by omega
        have hks : IntKind.i64.wrap ((j : Int) + 1) = (j : Int) + 1 := by rw [IntKind.wrap_i64]; omega
        obtain ⟨t, ht⟩ : ∃ t, kids[j]? = some t := ⟨_, List.getElem?_eq_getElem (by have := HM.out; omega)⟩
        obtain ⟨g, v, rfl, _, h5, h6⟩ := XTBs_at HK.out ht
        rw [Nat.zero_add] at h5
        obtain ⟨vb, rfl⟩ := h6.form
        obtain ⟨s1, s2⟩ := tszs_take ht
        have hkl := kid_lt kids j t ht
        have HC := hid (HIH.out t _ w (by have := HN.out; omega) (by omega) h6)
        have hwr : IntKind.i64.wrap (((1 + tszs (kids.take j) : Nat) : Int) + (tsz t : Int)) = ((1 + tszs (kids.take (j + 1)) : Nat) : Int) := by rw [IntKind.wrap_i64]; have := HN.out; omega
        generalize hA1 : ((1 + tszs (kids.take j) : Nat) : Int) = A1 at *
        generalize hA2 : ((1 + tszs (kids.take (j + 1)) : Nat) : Int) = A2 at *
        have HA2 := hid hA2
        generalize (tsz t : Int) = A3 at *
        clear ht h6 s1 s2 hkl hA1 hA2
        go_wp2_with fail
        refine HC.out.mono ?_
        rintro e w1 ⟨rfl, hw⟩
        have hw2 := hw.symm
        subst hw2
        go_wp2_with fail
        go_round
        case rel => exact ⟨j + 1, by omega, by go_num, by rw [HA2.out]⟩
        case measure => simp [intOf]; omega
      · obtain rfl : j = m := by omega
        have hlt2 : ¬ (j : Int) < (j : Int) := by omega
        have HE : Hid (((1 + tszs (kids.take j) : Nat) : Int) = ((1 + tszs kids : Nat) : Int)) := by unfold Hid; rw [HM.out, List.take_length]
        generalize ((1 + tszs (kids.take j) : Nat) : Int) = A1 at *
        go_wp2_with fail
        go_ret
        exact ⟨by rw [HE.out]; rfl, rfl⟩

set_option maxRecDepth 100000 in
set_option maxHeartbeats 1000000 in
theorem rweight_any (lo c : Nat) (a : Option Addr) (fs : List FnT) (Xs : List Nat) (w : World) (hF : RFl lo w a fs Xs) (hn : fs.length ≤ 1000000) (hp : pwgt fs ≤ 1000000) : Calls Tryz.prog 14 #[.slice a fs.length c] w fun e w' => e = .returned (.int .i64 (pwgt fs : Int)) ∧ w' = w := by
  have HF := hid hF
  obtain ⟨n, hnn⟩ : ∃ n, n = fs.length := ⟨_, rfl⟩
  have HN := hid hnn
  rw [← hnn] at hn ⊢
  have HP := hid hp
  clear hF hnn hp
  go_enter Tryz.func14, Tryz.ntmps14
  go_wp2_with fail
  go_loop [3, 4] (fun nv iv => ∃ j : Nat, j ≤ n ∧ iv = .int .i64 j ∧ nv = .int .i64 ((pwgt (fs.take j) : Nat) : Int)) (fun _ iv => n - (intOf iv).toNat)
  case atStart => exact ⟨0, Nat.zero_le _, rfl, by simp [pwgt]⟩
  case round =>
    obtain ⟨j, hj, rfl, rfl⟩ := hrel
    by_cases hlt : j < n
    · have hlt2 : (j : Int) < (n : Int) := by omega
      have hj0 : (0 : Int) ≤ (j : Int) := by omega
      have hks : IntKind.i64.wrap ((j : Int) + 1) = (j : Int) + 1 := by rw [IntKind.wrap_i64]; omega
      obtain ⟨g, X, kb, hg, hX, rfl, hc, hR⟩ := HF.out.get (i := j) (by have := HN.out; omega)
      obtain ⟨am, cm, aw, cw, pb, _, hXh, _, hB, _⟩ := hR
      have x2 : w.cell? ⟨X, 2, none⟩ = some (.slice am g.more.length cm) := by simp [World.cell?, hXh]
      have x4 : w.cell? ⟨X, 4, none⟩ = some (.pointer pb) := by simp [World.cell?, hXh]
      obtain ⟨s1, s2⟩ := pwgt_take hg
      have hfz : fsz g = g.more.length + tsz g.body := rfl
      have HC := hid (rparts_any _ 1000000 g.body _ w (by have := HP.out; omega) (Nat.le_refl _) hB)
      have hw1 : IntKind.i64.wrap (((pwgt (fs.take j) : Nat) : Int) + (tsz g.body : Int)) = ((pwgt (fs.take j) : Nat) : Int) + (tsz g.body : Int) := by rw [IntKind.wrap_i64]; have := HP.out; omega
      have hw2 : IntKind.i64.wrap (((pwgt (fs.take j) : Nat) : Int) + (tsz g.body : Int) + (g.more.length : Int)) = ((pwgt (fs.take (j + 1)) : Nat) : Int) := by rw [IntKind.wrap_i64]; have := HP.out; omega
      generalize hA1 : ((pwgt (fs.take j) : Nat) : Int) = A1 at *
      generalize hA2 : ((pwgt (fs.take (j + 1)) : Nat) : Int) = A2 at *
      have HA2 := hid hA2
      generalize (tsz g.body : Int) = A3 at *
      generalize g.more.length = m at *
      clear hg hX hXh hB s1 s2 hfz hA1 hA2
      go_wp2_with fail
      refine HC.out.mono ?_
      rintro e w1 ⟨rfl, hw⟩
      have hw3 := hw.symm
      subst hw3
      go_wp2_with fail
      go_round
      case rel => exact ⟨j + 1, by omega, by go_num, by rw [HA2.out]⟩
      case measure => simp [intOf]; omega
    · obtain rfl : j = n := by omega
      have hlt2 : ¬ (j : Int) < (j : Int) := by omega
      have HE : Hid (((pwgt (fs.take j) : Nat) : Int) = ((pwgt fs : Nat) : Int)) := by unfold Hid; rw [HN.out, List.take_length]
      generalize ((pwgt (fs.take j) : Nat) : Int) = A1 at *
      go_wp2_with fail
      go_ret
      exact ⟨by rw [HE.out]; rfl, rfl⟩

end Go.Proofs.YtmmgkdcojkmlcaaGreatDoor

namespace Go.Proofs.YtmmgkdcojkmlcaaGreatDoor
open Go.RowKit

theorem fnP_is (p : Nat) (g : FnT) (s : LwS) (hT : TW g.body) : s.L.length + 2 ≤ (fnP p g s).L.length ∧ (fnP p g s).L.length ≤ s.L.length + 5 * fsz g ∧ (fnP p g s).cl.length ≤ s.cl.length + fsz g ∧ (fnP p g s).cells ≤ fsz g + 1 ∧ ∀ n, StK n s (fnP p g s) := by
  obtain ⟨e1, e2, e3, e4⟩ := nmN_is g.more (fn0 s) ⟨rfl, rfl⟩ g.more.length
  have h1 := LeL.v (q := kfO p (g.more.length : Int) g.body) (fun to s => tlP_le p (g.more.length : Int) g.body to s) (fn2 p g s)
  obtain ⟨w1, w2⟩ := wr_len (fn1 g s).cell p 5 (g.more.length : Int) 0 0
  obtain ⟨w3, w4⟩ := wr_len (fnV p g s).2 p 11 (fnV p g s).1 0 0
  have l2 : (fn2 p g s).L.length = s.L.length + 1 := by
    unfold fn2
    rw [w1]
    show (nmN g.more (fn0 s) g.more.length).L.length + 1 = _
    rw [e1]
    rfl
  have k2 : (fn2 p g s).cl.length = s.cl.length := by
    unfold fn2
    rw [w2]
    show (nmN g.more (fn0 s) g.more.length).cl.length = _
    rw [e2]
    rfl
  have c2 : (fn2 p g s).cells = g.more.length + 1 := by
    show (nmN g.more (fn0 s) g.more.length).cells + 1 = _
    rw [e3]
  have lv : (fnV p g s).2.L.length ≤ (fn2 p g s).L.length + (3 * tsz g.body - 1) := h1.l1
  have l0 : (fn2 p g s).L.length ≤ (fnV p g s).2.L.length := h1.l0
  have kv : (fnV p g s).2.cl.length ≤ (fn2 p g s).cl.length + tsz g.body := h1.k1
  have cv : (fnV p g s).2.cells ≤ (fn2 p g s).cells + (tsz g.body - 1 + 1) := h1.c1
  have hp := tsz_ps g.body
  have cP : (fnP p g s).cells = (fnV p g s).2.cells := rfl
  unfold fsz
  refine ⟨by unfold fnP; rw [w3]; omega, by unfold fnP; rw [w3]; omega, by unfold fnP; rw [w4]; omega, by rw [cP]; omega, fun n => ?_⟩
  have a1 : StK n s (fn1 g s) := StK.same e1 e2
  have a2 : StK n (fn1 g s) (fn2 p g s) := (StK.same rfl rfl : StK n (fn1 g s) (fn1 g s).cell).trans (StK.wr n p _ _ _ _ _)
  have a3 : StK n (fn2 p g s) (fnV p g s).2 := StK.v (q := kfO p (g.more.length : Int) g.body) (fun to s => tlP_st n p (g.more.length : Int) g.body to s hT) (fn2 p g s)
  exact ((a1.trans a2).trans a3).trans (StK.wr n p _ _ _ _ _)
/-- the first functions are written -/
def cdN (p : Nat) (fs : List FnT) (s : LwS) : Nat → LwS
  | 0 => s
  | i + 1 => match fs[i]? with
    | some g => fnP p g (cdN p fs s i)
    | none => cdN p fs s i
def cdF (p : Nat) (fs : List FnT) (s : LwS) : Nat → List UInt8 → Option (Nat × Nat)
  | 0 => fun _ => none
  | i + 1 => match fs[i]? with
    | some g => updT (cdF p fs s i) g.name ((cdN p fs s i).L.length, (fnP p g (cdN p fs s i)).cells)
    | none => cdF p fs s i
theorem cdN_is (p : Nat) (fs : List FnT) (s : LwS) (hW : ∀ g, g ∈ fs → FW g) (hs : s.L.length ≤ 10000) (hc : s.cl.length ≤ 10000) (hw : pwgt fs ≤ 4000) : ∀ i, i ≤ fs.length → s.L.length ≤ (cdN p fs s i).L.length ∧ (cdN p fs s i).L.length ≤ s.L.length + 5 * pwgt (fs.take i) ∧ (cdN p fs s i).cl.length ≤ s.cl.length + pwgt (fs.take i) ∧ pwgt (fs.take i) ≤ 4000 ∧ (∀ n, StK n s (cdN p fs s i)) ∧ FrOk (cdF p fs s i)
  | 0, _ => ⟨Nat.le_refl _, by rw [cdN]; omega, by rw [cdN]; omega, by simp [pwgt], fun n => StK.refl n s, fun x v e => by cases e⟩
  | i + 1, hi => by
    obtain ⟨g, hg⟩ : ∃ g, fs[i]? = some g := ⟨_, List.getElem?_eq_getElem (by omega)⟩
    obtain ⟨h0, h1, h2, h3, h4, h5⟩ := cdN_is p fs s hW hs hc hw i (by omega)
    obtain ⟨t1, t2⟩ := pwgt_take hg
    have hgm := List.mem_of_getElem? hg
    obtain ⟨f0, f1, f2, f3, f4⟩ := fnP_is p g (cdN p fs s i) (hW g hgm).2.2.2
    have en : cdN p fs s (i + 1) = fnP p g (cdN p fs s i) := by rw [cdN, hg]
    have ef : cdF p fs s (i + 1) = updT (cdF p fs s i) g.name ((cdN p fs s i).L.length, (fnP p g (cdN p fs s i)).cells) := by rw [cdF, hg]
    rw [en, ef]
    refine ⟨by omega, by omega, by omega, by omega, fun n => (h4 n).trans (f4 n), fun x v e => ?_⟩
    unfold updT at e
    split at e
    · injection e with e
      subst e
      exact ⟨by simp only; omega, by simp only; omega⟩
    · exact h5 x v e
def cd0 : LwS := ⟨[], [], 0, fun _ => none⟩
def cdS (p n : Nat) (fs : List FnT) : LwS := cdN p fs (begL p n cd0) fs.length
def cdM (p n : Nat) (fs : List FnT) : List UInt8 → Option (Nat × Nat) := cdF p fs (begL p n cd0) fs.length
/-- the code of a program -/
def cdL (p n : Nat) (fs : List FnT) : LwS := flN p (cdM p n fs) (cdS p n fs) (cdS p n fs).cl.length
theorem setN_at (p : Nat) : ∀ n, (setN p cd0 n).L = (List.range n).map fun (i : Nat) => insP p 5 (i : Int) 0 0
  | 0 => rfl
  | i + 1 => by
    rw [List.range_succ, List.map_append, ← setN_at p i, setN]
    show (((setN p cd0 i).L ++ [zIns]).set (setN p cd0 i).L.length _) = _
    simp
theorem begL_is (p n : Nat) : (begL p n cd0).L.length = 2 * n + 3 ∧ (begL p n cd0).cl.length = 1 ∧ StK n (setN p cd0 n) (begL p n cd0) ∧ ClN n (begL p n cd0) := by
  obtain ⟨a1, a2⟩ := setN_len p cd0 n
  obtain ⟨b1, b2⟩ := pasN_len p (setN p cd0 n) n
  have hl : (begL p n cd0).L.length = 2 * n + 3 := by
    unfold begL
    rw [(wr_len _ p 0 (n : Int) 0 0).1, (wr_len _ p 12 (n : Int) 0 0).1]
    show ((pasN p (setN p cd0 n) n).L ++ [zIns]).length + 1 + 1 = _
    rw [List.length_append, b1, a1]
    simp [cd0]
    omega
  have hk : (begL p n cd0).cl = [((pasN p (setN p cd0 n) n).L.length, mainW)] := by
    unfold begL
    rw [(wr_len _ p 0 (n : Int) 0 0).2, (wr_len _ p 12 (n : Int) 0 0).2]
    show (pasN p (setN p cd0 n) n).cl ++ [_] = _
    rw [b2, a2]
    rfl
  have hp : ∀ j, StK n (setN p cd0 n) (pasN p (setN p cd0 n) j) := fun j => by
    induction j with
    | zero => exact StK.refl _ _
    | succ j ih => exact ih.trans (StK.wr n p _ _ _ _ _)
  refine ⟨hl, by rw [hk]; rfl, ((hp n).trans (StK.ca n mainW _ (by decide))).trans ((StK.wr n p _ _ _ _ _).trans (StK.wr n p _ _ _ _ _)), fun c hc => ?_⟩
  rw [hk] at hc
  simp at hc
  subst hc
  rw [hl]
  refine ⟨by simp only; rw [b1, a1]; simp [cd0], by simp only; rw [b1, a1]; simp [cd0]; omega, by show mainW.length ≤ 4000; decide⟩
theorem flN_st (n p : Nat) (F : List UInt8 → Option (Nat × Nat)) (s : LwS) (hs : ClN n s) : ∀ i, i ≤ s.cl.length → StK n s (flN p F s i)
  | 0, _ => StK.refl n s
  | i + 1, hi => by
    refine (flN_st n p F s hs i (by omega)).trans ?_
    obtain ⟨c, hc⟩ : ∃ c, s.cl[i]? = some c := ⟨_, List.getElem?_eq_getElem (by omega)⟩
    have e : clat s i = c := by unfold clat; rw [hc]; rfl
    rw [flN, e]
    exact StK.fl n p c.1 _ _ _ _ _ (hs c (List.mem_of_getElem? hc)).1
structure CdOk (p n : Nat) (fs : List FnT) : Prop where
  l0 : 2 * n + 3 ≤ (cdL p n fs).L.length
  l1 : (cdL p n fs).L.length ≤ 2 * n + 3 + 5 * pwgt fs
  sl : (cdS p n fs).L.length = (cdL p n fs).L.length
  ck : (cdS p n fs).cl.length ≤ 1 + pwgt fs
  co : ClOk (cdS p n fs)
  fo : FrOk (cdM p n fs)
  pre : (cdL p n fs).L.take n = (List.range n).map fun (i : Nat) => insP p 5 (i : Int) 0 0
theorem cd_ok (p n : Nat) (fs : List FnT) (hW : ∀ g, g ∈ fs → FW g) (hw : pwgt fs ≤ 4000) (hn : n ≤ 4000) : CdOk p n fs := by
  obtain ⟨a1, a2, a3, a4⟩ := begL_is p n
  obtain ⟨h0, h1, h2, _, h4, h5⟩ := cdN_is p fs (begL p n cd0) hW (by omega) (by omega) hw fs.length (Nat.le_refl _)
  rw [List.take_length] at h1 h2
  obtain ⟨k1, k2, k3⟩ := h4 n (by omega)
  have hc : ClN n (cdS p n fs) := k3 a4
  obtain ⟨f1, f2⟩ := flN_len p (cdM p n fs) (cdS p n fs) (cdS p n fs).cl.length
  have hf := flN_st n p (cdM p n fs) (cdS p n fs) hc _ (Nat.le_refl _)
  obtain ⟨g1, g2, _⟩ := hf (by show n ≤ (cdN p fs (begL p n cd0) fs.length).L.length; omega)
  obtain ⟨b1, _⟩ := setN_len p cd0 n
  obtain ⟨c1, c2, _⟩ := a3 (by rw [b1]; omega)
  refine ⟨?_, ?_, f1.symm, ?_, fun c hcm => ⟨(hc c hcm).2.1, (hc c hcm).2.2⟩, h5, ?_⟩
  · unfold cdL; rw [f1]; show _ ≤ (cdN p fs (begL p n cd0) fs.length).L.length; omega
  · unfold cdL; rw [f1]; show (cdN p fs (begL p n cd0) fs.length).L.length ≤ _; omega
  · show (cdN p fs (begL p n cd0) fs.length).cl.length ≤ _; omega
  · unfold cdL
    rw [g2]
    show (cdN p fs (begL p n cd0) fs.length).L.take n = _
    rw [k2, c2, setN_at, List.take_of_length_le (by simp)]
theorem CdOk.at {p n : Nat} {fs : List FnT} (h : CdOk p n fs) {i : Nat} (hi : i < n) : (cdL p n fs).L[i]? = some (insP p 5 (i : Int) 0 0) := by
  have e : ((cdL p n fs).L.take n)[i]? = ((List.range n).map fun (i : Nat) => insP p 5 (i : Int) 0 0)[i]? := by rw [h.pre]
  rw [List.getElem?_take, if_pos hi] at e
  rw [e]
  simp [hi]

end Go.Proofs.YtmmgkdcojkmlcaaGreatDoor

namespace Go.Proofs.YtmmgkdcojkmlcaaGreatDoor
open Go.RowKit Go.Maps

/-- what a cell is -/
def cvl (cs : List (Int × Int)) (x : Int) : Int := if 0 ≤ finz cs x then (cat cs (finz cs x).toNat).2 else 0
/-- a map that reads as cells that are told -/
def CMap (D : DataW Unit) (cs : List (Int × Int)) : Prop := ∀ x : Int, (-9223372036854775808 ≤ x ∧ x ≤ 9223372036854775807) → Maps.has D (.int .i64 x) = decide (0 ≤ finz cs x) ∧ D.atKey (.int .i64 x) (.lit (.int .i64 0)) = .lit (.int .i64 (cvl cs x))
def MapAt (w : World) (B n : Nat) (cs : List (Int × Int)) : Prop := ∃ D : DataW Unit, w.ownsMap Tryz.prog 3 (plainElem Tryz.prog 3) B n D ∧ CMap D cs
theorem MapAt.kept {w w' : World} {B n : Nat} {cs : List (Int × Int)} {row : Option Nat} (h : MapAt w B n cs) (hg : w.grownBy w' row) (hne : some B ≠ row) : MapAt w' B n cs := by
  obtain ⟨D, h1, h2⟩ := h
  exact ⟨D, h1.kept hg hne, h2⟩
end Go.Proofs.YtmmgkdcojkmlcaaGreatDoor

namespace Go.Proofs.YtmmgkdcojkmlcaaGreatDoor
open Go.RowKit Go.Maps

end Go.Proofs.YtmmgkdcojkmlcaaGreatDoor
