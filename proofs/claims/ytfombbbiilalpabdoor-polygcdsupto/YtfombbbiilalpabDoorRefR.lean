/- What package attestref1's Divided answers, for every two lists, the second not zero. -/
import Derived.Test.YtfombbbiilalpabDoorPolDiv
import Derived.Test.YtfombbbiilalpabDoorSpoil
import Derived.Deep.QuietTactic
import Derived.BigQuiet
namespace Go.Proofs.YtfombbbiilalpabDoor
open Go.RowKit

theorem one_at (W : World) (x : Int) : (W.alloc (.cells #[.int .i64 x] 3)).cell? ⟨W.heap.size, 0, none⟩ = some (.int .i64 x) := by simp

theorem ret_tup2 {aq ar : Option Addr} {n n' m m' c c' : Nat} (h1 : n = n') (h2 : m = m') : Ending.returned (.tuple #[.slice aq n c, .slice ar m c']) = .returned (.tuple #[.slice aq n' c, .slice ar m' c']) := by rw [h1, h2]

set_option maxHeartbeats 4000000 in
theorem rdivided_any (p c1 c2 : Nat) (a1 a2 : Option Addr) (xs ys : List Int) (w : World) (hpr : Num.Prime p) (h3 : 3 ≤ p) (hm : p ≤ 2147483647)
    (hn1 : xs.length ≤ 17592186043904) (hn2 : ys.length ≤ 17592186044416) (hf1 : Fits xs) (hf2 : Fits ys) (hl1 : Lst w.heap.size w a1 c1 xs) (hl2 : Lst w.heap.size w a2 c2 ys) (h0 : 0 < (Pol.trim p ys).length) :
    Calls Tryd.prog 26 #[.int .i64 p, .slice a1 xs.length c1, .slice a2 ys.length c2] w fun e w' => ∃ (q r : List Int) (aq ar : Option Addr) (cq cr : Nat),
      e = .returned (.tuple #[.slice aq q.length cq, .slice ar r.length cr]) ∧ IsD p xs (Pol.trim p ys) q r ∧ RowB w'.heap.size w' aq q ∧ RowB w'.heap.size w' ar r ∧ Below w.heap.size w w' := by
  have HT1 := hid (rtrim_any p c2 a2 ys w h3 hm hn2 hf2 hl2)
  have HT2 : Hid (∀ w1, Below w.heap.size w w1 → Calls Tryd.prog 21 #[.int .i64 p, .slice a1 xs.length c1] w1 fun e w' => ∃ a' c', e = .returned (.slice a' (Pol.trim p xs).length c') ∧ Lst w'.heap.size w' a' c' (Pol.trim p xs) ∧ Below w1.heap.size w1 w') := fun w1 hb1 =>
    rtrim_any p c1 a1 xs w1 h3 hm (by omega) hf1 ((hl1.below hb1).mono hb1.size)
  have HCT := hid (Pol.trim_can (p := p) (by omega) ys)
  have HFT := hid (trim_fits h3 hm ys)
  have HRS := hid (RD.start (p := p) h3 xs (Pol.trim p ys))
  have hty := Pol.trim_le p ys
  have htl : (Pol.trim p ys).length ≤ 17592186044416 := by omega
  have HPR := hid hpr
  clear hf1 hf2 hl1 hl2 hpr hty
  generalize Pol.trim p ys = ts at *
  generalize Pol.trim p xs = rs at *
  go_enter Tryd.func26, Tryd.ntmps26
  go_wp2_with fail
  refine HT1.out.mono ?_
  rintro e w1 ⟨at', ct, rfl, hlt1, hb1⟩
  have HLT := hid hlt1
  have HB1 := hid hb1
  clear hlt1 hb1
  go_wp2_with fail
  refine (HT2.out w1 HB1.out).mono ?_
  rintro e w2 ⟨ar', cr', rfl, hlr, hb2⟩
  have HLR := hid hlr
  have HLT2 := hid ((HLT.out.below hb2).mono hb2.size)
  have HB2 : Hid (Below w.heap.size w w2) := HB1.out.trans (hb2.mono HB1.out.size)
  clear hlr hb2 HLT HT1 HT2 HB1
  go_wp2_with fail
  go_loopw [8, 9] (fun rv qv wr => ∃ (q r : List Int) (aq ar : Option Addr) (cq cr : Nat), rv = .slice ar r.length cr ∧ qv = .slice aq q.length cq ∧ Hid (RD p xs ts q r xs.length) ∧ Hid (Lst wr.heap.size wr aq cq q) ∧ Hid (Lst wr.heap.size wr ar cr r) ∧ Hid (Lst wr.heap.size wr at' ct ts) ∧ Hid (Below w.heap.size w wr))
    (fun rv _ _ => match rv with | .slice _ n _ => n | _ => 0)
  case atStart => exact ⟨[], rs, none, ar', 0, cr', rfl, rfl, HRS, Lst.none _ _, HLR, HLT2, HB2⟩
  case round =>
    obtain ⟨q, r, aq, ar, cq, cr, rfl, rfl, hrd, hlq, hlr, hlt, hbel⟩ := hrel
    have hql := hrd.out.lq
    have hrl := hrd.out.lr
    by_cases hge : ts.length ≤ r.length
    · have hge2 : (ts.length : Int) ≤ (r.length : Int) := by omega
      obtain ⟨rl, hrl'⟩ : ∃ rl, rl = r.length - 1 := ⟨_, rfl⟩
      obtain ⟨tl, htl'⟩ : ∃ tl, tl = ts.length - 1 := ⟨_, rfl⟩
      obtain ⟨k, hk⟩ : ∃ k, k = r.length - ts.length := ⟨_, rfl⟩
      have e1 : (r.length : Int) - 1 = (rl : Int) := by omega
      have e2 : (ts.length : Int) - 1 = (tl : Int) := by omega
      have e3 : (r.length : Int) - (ts.length : Int) = (k : Int) := by omega
      have b1 : (rl : Int) < (r.length : Int) := by omega
      have b2 : (tl : Int) < (ts.length : Int) := by omega
      obtain ⟨br, orr, rfl, hbr, hcr⟩ := hlr.out.row rl (by omega)
      obtain ⟨bt, ot, rfl, hbt, hct⟩ := hlt.out.row tl (by omega)
      have HFR := hid (fits_of_can hm hrd.out.cr)
      have HFQ := hid (fits_of_can hm hrd.out.cq)
      have hx := HFR.out rl (by omega)
      have hy := HFT.out tl (by omega)
      have HDIV : Hid (∀ W : World, Calls Tryd.prog 56 #[.int .i64 p, .int .i64 (zat r rl), .int .i64 (zat ts tl)] W fun e w' => e = .returned (.int .i64 (zat r rl * (invn p (zat ts tl) : Int) % p)) ∧ w' = W) :=
        fun W => rdiv_any p (zat r rl) (zat ts tl) W h3 hm hx.1 hx.2 hy.1 hy.2
      have hrc : zat r rl * (invn p (zat ts tl) : Int) % (p : Int) = rc p r ts := by rw [hrl', htl']; rfl
      rw [hrc] at HDIV
      have hcb := emod_bounds (zat r (r.length - 1) * (invn p (zat ts (ts.length - 1)) : Int)) p h3
      rw [show zat r (r.length - 1) * (invn p (zat ts (ts.length - 1)) : Int) % (p : Int) = rc p r ts from rfl] at hcb
      obtain ⟨s1, s2⟩ := hrd.out.step HPR.out h3 HCT.out h0 hge
      rw [← hk] at s1 s2
      have HS1 := hid s1
      have HS2 := hid s2
      have hkn : k + 1 ≤ 17592186044416 := by omega
      have hkt : k + ts.length ≤ 17592186044416 := by omega
      generalize rc p r ts = c at *
      have HSC1 : Hid (∀ (W : World) (g : Nat), W.cell? ⟨g, 0, none⟩ = some (.int .i64 1) → Calls Tryd.prog 50 #[.int .i64 p, .slice (some ⟨g, 0, none⟩) 1 1, .int .i64 c, .int .i64 k] W fun e w' => ∃ a' c', e = .returned (.slice a' (Pol.pscale p [1] c k).length c') ∧ Lst w'.heap.size w' a' c' (Pol.pscale p [1] c k) ∧ Below W.heap.size W w') := fun W g hg =>
        rscaled_any p k 1 (some ⟨g, 0, none⟩) [1] c W h3 hm (by simpa using hkn) (fun j hj => by simp at hj; subst hj; simp [zat]) (by omega) (by omega) (fun j hj => by simp at hj; subst hj; exact ⟨g, 0, rfl, heap_lt hg, hg⟩)
      have HPL : Hid (∀ (W : World) (a' : Option Addr) (c' : Nat), RowB W.heap.size W aq q → Lst W.heap.size W a' c' (Pol.pscale p [1] c k) → Calls Tryd.prog 18 #[.int .i64 p, .slice aq q.length cq, .slice a' (Pol.pscale p [1] c k).length c'] W fun e w' => ∃ a'' c'', e = .returned (.slice a'' (Pol.padd p q (Pol.pscale p [1] c k)).length c'') ∧ Lst w'.heap.size w' a'' c'' (Pol.padd p q (Pol.pscale p [1] c k)) ∧ Below W.heap.size W w') := fun W a' c' g1 g2 =>
        rplus_any p cq c' aq a' q _ W h3 hm (by omega) (by have := Pol.pscale_le p [1] c k; simp at this; omega) HFQ.out (fits_of_can hm (pscale_can h3 _ _ _)) g1 g2.row
      have HSC2 : Hid (∀ (W : World), RowB W.heap.size W (some ⟨bt, ot, none⟩) ts → Calls Tryd.prog 50 #[.int .i64 p, .slice (some ⟨bt, ot, none⟩) ts.length ct, .int .i64 c, .int .i64 k] W fun e w' => ∃ a' c', e = .returned (.slice a' (Pol.pscale p ts c k).length c') ∧ Lst w'.heap.size w' a' c' (Pol.pscale p ts c k) ∧ Below W.heap.size W w') := fun W hg =>
        rscaled_any p k ct (some ⟨bt, ot, none⟩) ts c W h3 hm hkt HFT.out (by omega) (by omega) hg
      have HMI : Hid (∀ (W : World) (a' : Option Addr) (c' : Nat), RowB W.heap.size W (some ⟨br, orr, none⟩) r → Lst W.heap.size W a' c' (Pol.pscale p ts c k) → Calls Tryd.prog 19 #[.int .i64 p, .slice (some ⟨br, orr, none⟩) r.length cr, .slice a' (Pol.pscale p ts c k).length c'] W fun e w' => ∃ a'' c'', e = .returned (.slice a'' (Pol.psub p r (Pol.pscale p ts c k)).length c'') ∧ Lst w'.heap.size w' a'' c'' (Pol.psub p r (Pol.pscale p ts c k)) ∧ Below W.heap.size W w') := fun W a' c' g1 g2 =>
        rminus_any p cr c' (some ⟨br, orr, none⟩) a' r _ W h3 hm (by omega) (by have := Pol.pscale_le p ts c k; omega) HFR.out (fits_of_can hm (pscale_can h3 _ _ _)) g1 g2.row
      clear s1 s2 hrc hk hrl' htl' hcb hx hy
      generalize Pol.padd p q (Pol.pscale p [1] c k) = q' at *
      generalize Pol.psub p r (Pol.pscale p ts c k) = r' at *
      generalize Pol.pscale p [1] c k = one at *
      generalize Pol.pscale p ts c k = row at *
      generalize zat r rl = x at *
      generalize zat ts tl = y at *
      go_wp2_with fail
      go_quiet (first | (go_at_call 56; exact Calls.quiet_of_same (HDIV.out _)))
      go_wp2_with fail
      refine (HSC1.out ((wr.drewN nq).alloc (.cells #[.int .i64 1] 3)) wr.heap.size (one_at (wr.drewN nq) 1)).mono ?_
      rintro e w3 ⟨ao, co, rfl, hlo, hb3⟩
      have hbw3 : Below wr.heap.size wr w3 := ((below_drewN (Below.refl wr.heap.size wr) nq).alloc (Nat.le_refl _) _).trans (hb3.mono (by simp))
      have HLO := hid hlo
      have HA3 : Hid (Alive w3 [(aq, q), (some ⟨bt, ot, none⟩, ts), (some ⟨br, orr, none⟩, r)]) := (((Alive.nil wr).cons hlr.out.row).cons hlt.out.row |>.cons hlq.out.row).step hbw3
      have HB3 : Hid (Below w.heap.size w w3) := hbel.out.trans (hbw3.mono hbel.out.size)
      clear hlo hb3 hbw3
      go_wp2_with fail
      refine (HPL.out w3 ao co (HA3.out.at 0 rfl) HLO.out).mono ?_
      rintro e w4 ⟨aq', cq', rfl, hlq', hb4⟩
      have HLQ' := hid hlq'
      have HA4 := hid (HA3.out.step hb4)
      have HB4 : Hid (Below w.heap.size w w4) := HB3.out.trans (hb4.mono HB3.out.size)
      clear hlq' hb4
      go_wp2_with fail
      refine (HSC2.out w4 (HA4.out.at 1 rfl)).mono ?_
      rintro e w5 ⟨ao5, co5, rfl, hlo5, hb5⟩
      have HLO5 := hid hlo5
      have HLQ5 := hid ((HLQ'.out.below hb5).mono hb5.size)
      have HA5 := hid (HA4.out.step hb5)
      have HB5 : Hid (Below w.heap.size w w5) := HB4.out.trans (hb5.mono HB4.out.size)
      clear hlo5 hb5
      go_wp2_with fail
      refine (HMI.out w5 ao5 co5 (HA5.out.at 2 rfl) HLO5.out).mono ?_
      rintro e w6 ⟨ar6, cr6, rfl, hlr6, hb6⟩
      have HLR6 := hid hlr6
      have HLQ6 := hid ((HLQ5.out.below hb6).mono hb6.size)
      have HA6 := hid (HA5.out.step hb6)
      have HB6 : Hid (Below w.heap.size w w6) := HB5.out.trans (hb6.mono HB5.out.size)
      have hr'l := HS2.out
      clear hlr6 hb6
      go_wp2_with fail
      go_roundw
      case rel => exact ⟨q', r', _, _, _, _, rfl, rfl, HS1, HLQ6, HLR6, ⟨HA6.out.at 1 rfl, hlt.out.room, hlt.out.nil⟩, HB6⟩
      case measure => first | exact hr'l | (simp; exact hr'l)
    · have hge2 : ¬ (ts.length : Int) ≤ (r.length : Int) := by omega
      have HD := hid (hrd.out.done (by omega))
      go_wp2_with fail
      go_ret2
      exact ⟨q, r, _, _, ⟨_, _, rfl⟩, HD.out, hlq.out.row, hlr.out.row, hbel.out⟩
end Go.Proofs.YtfombbbiilalpabDoor
