/- attestref5.Open. -/
import Derived.Test.YtionbilheeheaaeGreatDoorTreD
import Derived.Test.YtionbilheeheaaeGreatDoorTreB
namespace Go.Proofs.YtionbilheeheaaeGreatDoor
open Go.RowKit

/-- three cells -/
def tri (a b c : Value) : Nat → Value
  | 0 => a
  | 1 => b
  | _ => c
theorem tri_new (w : World) (t : TypeId) (a b c : Value) : (w.alloc (.cells #[a, b, c] t)).rowIs w.heap.size t 3 (tri a b c) :=
  ⟨#[a, b, c], heap_alloc_new w _, rfl, fun i hi => by
    have : i = 0 ∨ i = 1 ∨ i = 2 := by omega
    rcases this with rfl | rfl | rfl <;> rfl⟩
theorem tri_arr {W : World} {g : Nat} {t : TypeId} {a b c : Value} (h : W.rowIs g t 3 (tri a b c)) : W.heap[g]? = some (.cells #[a, b, c] t (0, 0)) := by
  obtain ⟨cs, h1, h2, h4⟩ := h
  rw [h1]
  have e : cs = #[a, b, c] := by
    apply Array.ext
    · simpa using h2
    · intro i hi hi2
      have h0 : i = 0 ∨ i = 1 ∨ i = 2 := by simp at hi2; omega
      have h5 := h4 i (by omega)
      rw [Array.getElem?_eq_getElem hi] at h5
      have h6 := Option.some.inj h5
      rw [h6]
      rcases h0 with rfl | rfl | rfl <;> rfl
  rw [e]
theorem tri_set1 {W : World} {g : Nat} {t : TypeId} {a b c : Value} (h : W.rowIs g t 3 (tri a b c)) (b' : Value) : (W.setCell ⟨g, 1, none⟩ b').rowIs g t 3 (tri a b' c) :=
  (h.set 1 b').congr (fun i hi => by
    have : i = 0 ∨ i = 1 ∨ i = 2 := by omega
    rcases this with rfl | rfl | rfl <;> simp [tri])
theorem tri_set0 {W : World} {g : Nat} {t : TypeId} {a b c : Value} (h : W.rowIs g t 3 (tri a b c)) (a' : Value) : (W.setCell ⟨g, 0, none⟩ a').rowIs g t 3 (tri a' b c) :=
  (h.set 0 a').congr (fun i hi => by
    have : i = 0 ∨ i = 1 ∨ i = 2 := by omega
    rcases this with rfl | rfl | rfl <;> simp [tri])
theorem tri_set2 {W : World} {g : Nat} {t : TypeId} {a b c : Value} (h : W.rowIs g t 3 (tri a b c)) (c' : Value) : (W.setCell ⟨g, 2, none⟩ c').rowIs g t 3 (tri a b c') :=
  (h.set 2 c').congr (fun i hi => by
    have : i = 0 ∨ i = 1 ∨ i = 2 := by omega
    rcases this with rfl | rfl | rfl <;> simp [tri])

/-- a list's elements -/
def elr (q : Nat) (r : List Int) : List Int := ls (fun j => zat r j % (q : Int)) r.length
/-- the rows that are shown -/
def shw (q : Nat) (rows : List (List Int)) (os : List Int) : List (List Int) := os.map (fun x => elr q (rat rows x.toNat))
theorem shw_len (q : Nat) (rows : List (List Int)) (os : List Int) : (shw q rows os).length = os.length := by simp [shw]
theorem shw_snoc (q : Nat) (rows : List (List Int)) {os : List Int} {k : Nat} (h : k < os.length) : shw q rows (os.take (k + 1)) = shw q rows (os.take k) ++ [elr q (rat rows (zat os k).toNat)] := by
  unfold shw
  rw [List.take_add_one, List.getElem?_eq_getElem h, List.map_append]
  simp [zat, h]

theorem rowO {w : World} {O : Nat} {f : Nat → Value} {n : Nat} (h : w.rowIs O 33 n f) : ∃ c fr, w.heap[O]? = some (.cells c 33 fr) := by
  obtain ⟨c, h1, _⟩ := h
  exact ⟨c, _, h1⟩

/-- an Opening alone has turned -/
theorem ne_O {w : World} {O b : Nat} (hO : ∃ c f, w.heap[O]? = some (.cells c 33 f)) (hb : NotRow w b) : b ≠ O := by
  rintro rfl
  obtain ⟨c, f, h1⟩ := hO
  obtain ⟨c', t, f', h2, h3⟩ := hb
  rw [h1] at h2
  cases h2
  exact h3.2 rfl
theorem SlR.onlyO {w w' : World} {O : Nat} {u : Value} {r : List Int} (h : SlR w r u) (hO : ∃ c f, w.heap[O]? = some (.cells c 33 f)) (hs : w.heap.size ≤ w'.heap.size) (e : ∀ b, b ≠ O → w'.heap[b]? = w.heap[b]?) : SlR w' r u :=
  h.blocks hs (fun b _ hb => e b (ne_O hO hb))
theorem OwnR.onlyO {base : Nat} {w w' : World} {O : Nat} {u : Value} {rs : List (List Int)} (h : OwnR base w u rs) (hO : ∃ c f, w.heap[O]? = some (.cells c 33 f)) (hs : w.heap.size ≤ w'.heap.size) (e : ∀ b, b ≠ O → w'.heap[b]? = w.heap[b]?) : OwnR base w' u rs := by
  obtain ⟨vals, ⟨h0, h1⟩, h2⟩ := h
  refine ⟨vals, ⟨h0, ?_⟩, fun j hj => ?_⟩
  · rcases h1 with h1 | ⟨g, cap, cur, h3, h4, hg, h5⟩
    · exact .inl h1
    · refine .inr ⟨g, cap, cur, h3, h4, (e g ?_).trans hg, h5⟩
      rintro rfl
      obtain ⟨c, f, h6⟩ := hO
      rw [hg] at h6
      injection h6 with h6
      injection h6 with _ h6 _
      exact absurd h6 (by decide)
  · obtain ⟨x, h3, h4⟩ := h2 j hj
    exact ⟨x, h3, h4.onlyO hO hs e⟩

set_option maxRecDepth 100000 in
set_option maxHeartbeats 2000000 in
theorem ropen_any (q n cap cp : Nat) (a ap : Option Addr) (rows : List (List Int)) (ps : List Int) (w : World) (h5 : 5 ≤ q) (h4 : q ≤ 2147483647) (hpn : Spo.PowIs q n) (h1 : 1 ≤ rows.length) (hmr : rows.length ≤ 65536) (hfit : FitsR rows) (hl : LstR w.heap.size w a cap rows)
    (hps : ps.length ≤ 17592186044400) (hrp : RowB w.heap.size w ap ps) (hin : ∀ x, x ∈ ps → 0 ≤ x ∧ x < (rows.length : Int)) :
    Calls Tryz.prog 13 #[.int .i64 q, .slice a rows.length cap, .slice ap ps.length cp] w fun e w' =>
      ∃ os vp vr vn, e = .returned (.agg #[vp, vr, vn]) ∧ OnceIs ps os ∧ SlR w' os vp ∧ OwnR w.heap.size w' vr (shw q rows os) ∧ OwnR w.heap.size w' vn (ndf q n rows.length rows os 0) ∧ Below w.heap.size w w' := by
  have h3 : 3 ≤ q := by omega
  have HPN := hid hpn
  have HFR := hid hfit
  have HL := hid hl
  have HIN := hid hin
  have HB0 : Hid (Below w.heap.size w (w.alloc (.cells #[.slice none 0 0, .slice none 0 0, .slice none 0 0] 33))) := (Below.refl _ _).alloc (Nat.le_refl _) _
  have HR0 := hid (tri_new w 33 (.slice none 0 0) (.slice none 0 0) (.slice none 0 0))
  have hs0 : w.heap.size < (w.alloc (.cells #[.slice none 0 0, .slice none 0 0, .slice none 0 0] 33)).heap.size := by simp
  have HP0 := hid ((hrp.below HB0.out).mono HB0.out.size)
  clear hpn hfit hl hin hrp
  go_enter Tryz.func13, Tryz.ntmps13
  go_wp2_with fail
  generalize w.alloc (.cells #[.slice none 0 0, .slice none 0 0, .slice none 0 0] 33) = W0 at *
  refine (ronce_any cp ap ps W0 hps HP0.out).mono ?_
  rintro e w1 ⟨v, os, rfl, hos, hown, hb1⟩
  have HOS := hid hos
  have hol : os.length ≤ ps.length := asc_le hos.1 (fun x hx => (hos.2 x).1 hx)
  have hol2 : os.length ≤ rows.length := by
    have := asc_le (ps := (List.range rows.length).map (fun i : Nat => (i : Int))) hos.1 (fun x hx => by
      obtain ⟨e1, e2⟩ := HIN.out x ((hos.2 x).1 hx)
      exact List.mem_map.2 ⟨x.toNat, List.mem_range.2 (by omega), by omega⟩)
    simpa using this
  have HSL := hid (slr_of_owns hown)
  obtain ⟨ao, co, rfl, _⟩ := lst_of_owns hown
  have HB1 : Hid (Below w.heap.size w w1) := HB0.out.trans (hb1.mono HB0.out.size)
  have HR1 := hid (HR0.out.of_block (hb1.block _ hs0))
  have hs1 : w.heap.size < w1.heap.size := Nat.lt_of_lt_of_le hs0 hb1.size
  clear hos hown hb1 HB0 HR0 hs0 HP0
  have HBX : Hid (Below w1.heap.size w1 (w1.alloc (.cells #[.slice ao os.length co, .slice none 0 0, .slice none 0 0] 33))) := (Below.refl _ _).alloc (Nat.le_refl _) _
  have HO2 := hid (tri_new w1 33 (.slice ao os.length co) (.slice none 0 0) (.slice none 0 0))
  have HR2 := hid (HR1.out.of_block (HBX.out.block _ hs1))
  have HSL2 := hid (HSL.out.keep HBX.out)
  have HB2 : Hid (Below w.heap.size w (w1.alloc (.cells #[.slice ao os.length co, .slice none 0 0, .slice none 0 0] 33))) := HB1.out.trans (HBX.out.mono HB1.out.size)
  have hs2 : w1.heap.size < (w1.alloc (.cells #[.slice ao os.length co, .slice none 0 0, .slice none 0 0] 33)).heap.size := by simp
  go_wp2_with fail
  clear HBX HR1 HSL HB1
  generalize w1.alloc (.cells #[.slice ao os.length co, .slice none 0 0, .slice none 0 0] 33) = W2 at *
  obtain ⟨O, hO⟩ : ∃ O, O = w1.heap.size := ⟨_, rfl⟩
  obtain ⟨R, hR⟩ : ∃ R, R = w.heap.size := ⟨_, rfl⟩
  have HRW : Hid (R = w.heap.size) := hR
  rw [← hO] at HO2 hs1 hs2 ⊢
  rw [← hR] at HR2 hs1 ⊢
  clear hO hR
  go_loopw [9] (fun iv wr => ∃ (k : Nat) (vr : Value), k ≤ os.length ∧ iv = .int .i64 k ∧ Hid (wr.rowIs O 33 3 (tri (.slice ao os.length co) vr (.slice none 0 0)) ∧ wr.rowIs R 33 3 (tri (.slice none 0 0) (.slice none 0 0) (.slice none 0 0)) ∧ SlR wr os (.slice ao os.length co) ∧ OwnR W2.heap.size wr vr (shw q rows (os.take k)) ∧ Below w.heap.size w wr ∧ W2.heap.size ≤ wr.heap.size))
    (fun iv _ => os.length - (intOf iv).toNat)
  case atStart => exact ⟨0, .slice none 0 0, Nat.zero_le _, rfl, HO2.out, HR2.out, HSL2.out, by rw [List.take_zero]; exact OwnR.nil _ _, HB2.out, Nat.le_refl _⟩
  case round =>
    obtain ⟨k, vr, hk, rfl, hC⟩ := hrel
    obtain ⟨cO, cR, cS, cV, cB, cZ⟩ := hC.out
    by_cases hlt : k < os.length
    · have hlt2 : (k : Int) < (os.length : Int) := by omega
      have hkw : IntKind.i64.wrap ((k : Int) + 1) = (k : Int) + 1 := by rw [IntKind.wrap_i64]; omega
      obtain ⟨_, _, e1, cL⟩ := cS.lst
      cases e1
      obtain ⟨b1, o1, rfl, _, hc1⟩ := cL.row k hlt
      obtain ⟨hx0, hx1⟩ := HIN.out (zat os k) ((HOS.out.2 _).1 (zat_mem hlt))
      obtain ⟨y, hy⟩ := Int.eq_ofNat_of_zero_le hx0
      have hyl : y < rows.length := by omega
      have hyl2 : (y : Int) < (rows.length : Int) := by omega
      obtain ⟨b2, o2, ak, ck, rfl, hb2, hc2, hlk⟩ := HL.out.row y hyl
      have hd2 := (cB.cell (p := ⟨b2, o2 + y, none⟩) hb2).trans hc2
      have HLK := hid ((hlk.below cB).mono cB.size)
      obtain ⟨hfy, hfl⟩ := HFR.out y hyl
      have HSN : Hid (shw q rows (os.take (k + 1)) = shw q rows (os.take k) ++ [elr q (rat rows y)]) := by
        unfold Hid
        rw [shw_snoc q rows hlt, hy, Int.toNat_natCast]
      rw [hy] at hc1
      have HTL : Hid ((shw q rows (os.take k)).length = k) := by unfold Hid; rw [shw_len, List.length_take]; omega
      have HAL := hid (rall_own q (rat rows y).length ck ak (zat (rat rows y)) wr h3 h4 (by omega) hfy (HLK.out.row.f))
      rw [show ls (fun j => zat (rat rows y) j % (q : Int)) (rat rows y).length = elr q (rat rows y) from rfl] at HAL
      have HC := hid (And.intro cO (And.intro cR (And.intro cS (And.intro cV (And.intro cB cZ)))))
      clear hC cO cR cS cV cB cZ cL hc2 hlk hy hx0 hx1 HLK hfy
      generalize (rat rows y).length = ly at *
      generalize elr q (rat rows y) = E at *
      go_wp2_with fail
      refine HAL.out.mono ?_
      rintro e w3 ⟨v3, rfl, hown3, hb3⟩
      have hS3 := slr_of_owns hown3
      obtain ⟨a3, c3, e3, _⟩ := hS3.lst
      subst e3
      obtain ⟨cO, cR, cS, cV, cB, cZ⟩ := HC.out
      have dO := cO.of_block (hb3.block _ cO.lt)
      have z1 := dO.cell (i := 1) (by omega)
      have H3 := hid (And.intro dO (And.intro (cR.of_block (hb3.block _ cR.lt)) (And.intro (cS.keep hb3) (And.intro (cV.keep hb3) (And.intro (cB.trans (hb3.mono cB.size)) (And.intro (Nat.le_trans cZ hb3.size) hS3))))))
      have hOl : O < w3.heap.size := dO.lt
      clear hown3 hb3 hS3 cO cR cS cV cB cZ dO HC HAL
      go_wp2_with (at_builtin; refine wpList_row1 w3 W2.heap.size rfl _ _ rfl vr _ (shw q rows (os.take k)) E H3.out.2.2.2.1 H3.out.2.2.2.2.2.2 rfl rfl (by rw [HTL.out]; omega) H3.out.2.2.2.2.2.1 ?_)
      intro v4 w4 ho4 hb4 hn4
      obtain ⟨dO, dR, dS, _, dB, dZ, _⟩ := H3.out
      rw [← HSN.out] at ho4
      have eO := dO.of_block (hb4.block O (by omega))
      have eR := dR.of_block (hb4.block R (by omega))
      have hOw := rowO eO
      have y1 := eO.frozen 1
      have y2 := eO.cell (i := 1) (by omega)
      have hsz4 := hb4.size
      have HE : Hid ((w4.setCell ⟨O, 1, none⟩ v4).rowIs O 33 3 (tri (.slice (some ⟨b1, o1, none⟩) os.length co) v4 (.slice none 0 0)) ∧ (w4.setCell ⟨O, 1, none⟩ v4).rowIs R 33 3 (tri (.slice none 0 0) (.slice none 0 0) (.slice none 0 0)) ∧ SlR (w4.setCell ⟨O, 1, none⟩ v4) os (.slice (some ⟨b1, o1, none⟩) os.length co) ∧ OwnR W2.heap.size (w4.setCell ⟨O, 1, none⟩ v4) v4 (shw q rows (os.take (k + 1))) ∧ Below w.heap.size w (w4.setCell ⟨O, 1, none⟩ v4) ∧ W2.heap.size ≤ (w4.setCell ⟨O, 1, none⟩ v4).heap.size) := by
        refine ⟨tri_set1 eO v4, eR.setOther (a := ⟨O, 1, none⟩) (by show R ≠ O; omega) _, (dS.blocks hb4.size hn4).setO hOw, ho4.setO hOw, (dB.trans (hb4.mono HB2.out.size)).setCell (p := ⟨O, 1, none⟩) (by have := HRW.out; show w.heap.size ≤ O; omega) _, ?_⟩
        simp [World.setCell]
        omega
      obtain ⟨a4, c4, e4, _⟩ := ho4.lst
      subst e4
      clear ho4 hb4 hn4 dO dR dS dB dZ eO eR hOw H3
      go_wp2_with fail
      go_roundw
      case rel => exact ⟨k + 1, _, by omega, by go_num, HE⟩
      case measure => simp [intOf]; omega
    · obtain rfl : k = os.length := by omega
      rw [List.take_length] at cV
      obtain ⟨ar, cr, e1, _⟩ := cV.lst
      subst e1
      rw [shw_len] at cO
      obtain ⟨_, _, e2, cL⟩ := cS.lst
      cases e2
      have HNO := hid (rnodes_any q n h5 h4 HPN.out co ao os (by omega) rows.length cap a rows 0 wr h1 (Nat.le_refl _) hmr (Int.le_refl _) (by omega) HFR.out ((HL.out.below cB).mono cB.size) cL.row)
      have HC := hid (And.intro cO (And.intro cR (And.intro cS (And.intro cV (And.intro cB cZ)))))
      clear hC cO cR cS cV cB cZ cL
      go_wp2_with fail
      refine HNO.out.mono ?_
      rintro e w5 ⟨vn, rfl, hvn, hb5⟩
      obtain ⟨an', cn, e3, _⟩ := hvn.lst
      subst e3
      obtain ⟨cO, cR, cS, cV, cB, cZ⟩ := HC.out
      have dO := cO.of_block (hb5.block _ cO.lt)
      have dR := cR.of_block (hb5.block _ cR.lt)
      have z1 := dO.cell (i := 2) (by omega)
      have y1 := dO.frozen 2
      have hOw := rowO dO
      have hRw := rowO dR
      have hOR : R ≠ O := by omega
      have hRO : O ≠ R := by omega
      generalize (ndf q n rows.length rows os 0).length = ln at *
      have HA : Hid ((w5.setCell ⟨O, 2, none⟩ (.slice an' ln cn)).heap[O]? = some (.cells #[.slice ao os.length co, .slice ar (shw q rows os).length cr, .slice an' ln cn] 33 (0, 0))) := by
        unfold Hid
        rw [shw_len]
        exact tri_arr (tri_set2 dO _)
      have HRR : Hid ((w5.setCell ⟨O, 2, none⟩ (.slice an' ln cn)).heap[R]? = some (.cells #[.slice none 0 0, .slice none 0 0, .slice none 0 0] 33 (0, 0))) := tri_arr (dR.setOther (a := ⟨O, 2, none⟩) hOR _)
      have HX : Hid (SlR (w5.setCell ⟨O, 2, none⟩ (.slice an' ln cn)) os (.slice ao os.length co) ∧ OwnR w.heap.size (w5.setCell ⟨O, 2, none⟩ (.slice an' ln cn)) (.slice ar (shw q rows os).length cr) (shw q rows os) ∧ OwnR w.heap.size (w5.setCell ⟨O, 2, none⟩ (.slice an' ln cn)) (.slice an' ln cn) (ndf q n rows.length rows os 0) ∧ Below w.heap.size w (w5.setCell ⟨O, 2, none⟩ (.slice an' ln cn))) :=
        ⟨(cS.keep hb5).setO hOw, ((cV.keep hb5).setO hOw).mono (by have := HB2.out.size; exact this), (hvn.setO hOw).mono cB.size, (cB.trans (hb5.mono cB.size)).setCell (p := ⟨O, 2, none⟩) (by have := HRW.out; show w.heap.size ≤ O; omega) _⟩
      clear hvn hb5 cO cR cS cV cB cZ dO dR hOw HC HNO
      go_wp2_with (first
        | (refine wpList_load_row rfl 33 _ rfl O rfl _ _ _ _ HA.out Tryz.underlying33 rfl (by kernel_rfl) ?_)
        | (refine wpList_store_row rfl 33 _ _ rfl R #[.slice ao os.length co, .slice ar (shw q rows os).length cr, .slice an' ln cn] rfl rfl _ _ HRR.out (by kernel_rfl) rfl (by simp [Value.oneCell']) ?_))
      refine bodyPost_ret (results_cell_row rfl _ _ R 33 #[.slice ao os.length co, .slice ar (shw q rows os).length cr, .slice an' ln cn] (0, 0) _ rfl (setRow_heap _ _ _ _ _ _ HRR.out) Tryz.underlying33 rfl (by kernel_rfl)) rfl ?_
      have hRw2 : ∃ c f, (w5.setCell ⟨O, 2, none⟩ (.slice an' ln cn)).heap[R]? = some (.cells c 33 f) := ⟨_, _, HRR.out⟩
      refine ⟨os, _, _, _, rfl, HOS.out, HX.out.1.onlyO hRw2 (by simp) (fun b hb => setRow_other _ _ _ _ hb), HX.out.2.1.onlyO hRw2 (by simp) (fun b hb => setRow_other _ _ _ _ hb), HX.out.2.2.1.onlyO hRw2 (by simp) (fun b hb => setRow_other _ _ _ _ hb), below_setRow HX.out.2.2.2 (by have := HRW.out; omega) _⟩

end Go.Proofs.YtionbilheeheaaeGreatDoor
