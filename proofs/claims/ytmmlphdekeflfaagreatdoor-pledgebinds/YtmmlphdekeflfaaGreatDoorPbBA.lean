/- PledgeKeeps: the walk. Package tree: Collide, where one is not taken. -/
import Derived.Test.YtmmlphdekeflfaaGreatDoorPbAY
import Derived.Test.YtmmlphdekeflfaaGreatDoorPbAZ
import Derived.Test.YtmmlphdekeflfaaGreatDoorPbAX
namespace Go.Proofs.YtmmlphdekeflfaaGreatDoor
open Go.RowKit

set_option maxRecDepth 100000 in
set_option maxHeartbeats 1000000 in
/-- the closed fact: 1 and 1, mixed by 2, are 3 -/
theorem fact10 (q b : Nat) (w : World) (h3 : 5 ≤ q) (hm : q ≤ 2147483647) (hp : w.cell? ⟨b, 0, none⟩ = some (.int .i64 q)) :
    Calls Tryz.prog 9 #[.pointer (some ⟨b, 0, none⟩), .slice (some ⟨w.heap.size + 1 + 1, 0, none⟩) 2 2, .int .i64 2] (((w.alloc (.cells #[.int .i64 1] 3)).alloc (.cells #[.int .i64 1] 3)).alloc (.cells #[.slice (some ⟨w.heap.size, 0, none⟩) 1 1, .slice (some ⟨w.heap.size + 1, 0, none⟩) 1 1] 23)) fun e w' =>
      ∃ g, e = .returned (.tuple #[.slice (some ⟨g, 0, none⟩) 1 1, .nilIface]) ∧ w'.cell? ⟨g, 0, none⟩ = some (.int .i64 3) ∧ Below w.heap.size w w' := by
  obtain ⟨W1, hW1⟩ : ∃ W1, W1 = w.alloc (.cells #[.int .i64 1] 3) := ⟨_, rfl⟩
  obtain ⟨W2, hW2⟩ : ∃ W2, W2 = W1.alloc (.cells #[.int .i64 1] 3) := ⟨_, rfl⟩
  obtain ⟨W3, hW3⟩ : ∃ W3, W3 = W2.alloc (.cells #[.slice (some ⟨w.heap.size, 0, none⟩) 1 1, .slice (some ⟨w.heap.size + 1, 0, none⟩) 1 1] 23) := ⟨_, rfl⟩
  have hz1 : W1.heap.size = w.heap.size + 1 := by rw [hW1]; simp
  have hz2 : W2.heap.size = w.heap.size + 1 + 1 := by rw [hW2]; simp [hz1]
  have hz3 : W3.heap.size = w.heap.size + 1 + 1 + 1 := by rw [hW3]; simp [hz2]
  have hs1 : W1.heap[w.heap.size]? = some (.cells #[.int .i64 1] 3 (0, 0)) := by rw [hW1]; exact heap_alloc_new w _
  have hs2 : W2.heap[w.heap.size + 1]? = some (.cells #[.int .i64 1] 3 (0, 0)) := by rw [hW2, ← hz1]; exact heap_alloc_new W1 _
  have hs3 : W3.heap[w.heap.size + 1 + 1]? = some (.cells #[.slice (some ⟨w.heap.size, 0, none⟩) 1 1, .slice (some ⟨w.heap.size + 1, 0, none⟩) 1 1] 23 (0, 0)) := by rw [hW3, ← hz2]; exact heap_alloc_new W2 _
  have hb1 : Below w.heap.size w W1 := by rw [hW1]; exact (Below.refl _ _).alloc (Nat.le_refl _) _
  have hb2 : Below W1.heap.size W1 W2 := by rw [hW2]; exact (Below.refl _ _).alloc (Nat.le_refl _) _
  have hb3 : Below W2.heap.size W2 W3 := by rw [hW3]; exact (Below.refl _ _).alloc (Nat.le_refl _) _
  have hb13 : Below w.heap.size w W3 := (hb1.trans (hb2.mono (by omega))).trans (hb3.mono (by omega))
  have x1 : W3.cell? ⟨w.heap.size, 0, none⟩ = some (.int .i64 1) := (hb3.cell (p := ⟨w.heap.size, 0, none⟩) (by show w.heap.size < W2.heap.size; omega)).trans ((hb2.cell (p := ⟨w.heap.size, 0, none⟩) (by show w.heap.size < W1.heap.size; omega)).trans (by simp [World.cell?, hs1]))
  have x2 : W3.cell? ⟨w.heap.size + 1, 0, none⟩ = some (.int .i64 1) := (hb3.cell (p := ⟨w.heap.size + 1, 0, none⟩) (by show w.heap.size + 1 < W2.heap.size; omega)).trans (by simp [World.cell?, hs2])
  have hL : LstR W3.heap.size W3 (some ⟨w.heap.size + 1 + 1, 0, none⟩) 2 [[1], [1]] := ⟨fun k hk => by
    have : k = 0 ∨ k = 1 := by simp at hk; omega
    rcases this with rfl | rfl
    · exact ⟨w.heap.size + 1 + 1, 0, some ⟨w.heap.size, 0, none⟩, 1, rfl, by omega, by simp [World.cell?, hs3, rat], fun j hj => by
        obtain rfl : j = 0 := by simp [rat] at hj; omega
        exact ⟨w.heap.size, 0, rfl, by omega, by simpa [rat, zat] using x1⟩, by simp [rat], fun e => by cases e⟩
    · exact ⟨w.heap.size + 1 + 1, 0, some ⟨w.heap.size + 1, 0, none⟩, 1, rfl, by omega, by simp [World.cell?, hs3, rat], fun j hj => by
        obtain rfl : j = 0 := by simp [rat] at hj; omega
        exact ⟨w.heap.size + 1, 0, rfl, by omega, by simpa [rat, zat] using x2⟩, by simp [rat], fun e => by cases e⟩, by simp, fun e => by cases e⟩
  have hF : FitsR [[1], [1]] := fun k hk => by
    have : k = 0 ∨ k = 1 := by simp at hk; omega
    rcases this with rfl | rfl <;> exact ⟨fun j hj => by
      obtain rfl : j = 0 := by simp [rat] at hj; omega
      simp [rat, zat], by simp [rat]⟩
  have hbw := heap_lt hp
  have h := mix_any q b 2 2 (some ⟨w.heap.size + 1 + 1, 0, none⟩) [[1], [1]] W3 (by omega) hm ((hb13.cell (p := ⟨b, 0, none⟩) hbw).trans hp) (by omega) (by omega) (by omega) (by simp) hF hL
  rw [← hW1, ← hW2, ← hW3]
  refine h.mono ?_
  rintro e w' ⟨hb, hy, _⟩
  obtain ⟨g, rfl, hl⟩ := hy ⟨by simp, by simp [wiB, rat]⟩
  refine ⟨g, rfl, ?_, hb13.trans (hb.mono (by omega))⟩
  obtain ⟨b', o', e1, _, hx⟩ := hl.row 0 (by rw [mixz_len]; simp [rat])
  injection e1 with e1
  injection e1 with e1 e2
  subst e1 e2
  have : zat (mixz q [[1], [1]] 2) 0 = 3 := by
    unfold mixz
    rw [ls_at _ _ _ (by simp [rat])]
    simp [evz, pgc, Pol.ps, zat]
    exact Int.emod_eq_of_lt (by omega) (by omega)
  rw [this] at hx
  simpa using hx

end Go.Proofs.YtmmlphdekeflfaaGreatDoor

namespace Go.Proofs.YtmmlphdekeflfaaGreatDoor
open Go.RowKit

/-- checked, by what Check answers -/
theorem checked_false (q n d b s c4 cp cr cn : Nat) (a4 ap ar an' : Option Addr) (root : List Int) (N : Int) (ps : List Int) (rows nodes : List (List Int)) (w : World) (ok : SpgOk q n d) (hs : SpgAt w s b q n d) (hpl : ps.length ≤ 281474976710656) (hnl : nodes.length ≤ 281474976710656) (hN1 : -9223372036854775808 ≤ N) (hN2 : N ≤ 9223372036854775807)
    (hf4 : Fits root) (hfp : Fits ps) (hfr : FitsR rows) (hfn : FitsR nodes) (hl4 : Lst w.heap.size w a4 c4 root) (hp : Lst w.heap.size w ap cp ps) (hr : LstR w.heap.size w ar cr rows) (hn : LstR w.heap.size w an' cn nodes) (hc : chkf q n root N ps rows nodes = false) :
    Calls Tryz.prog 75 #[.pointer (some ⟨s, 0, none⟩), .slice a4 root.length c4, .int .i64 N, .agg #[.slice ap ps.length cp, .slice ar rows.length cr, .slice an' nodes.length cn]] w fun e w' => ∃ v, e = .returned (.tuple #[v, .bool false]) ∧ Below w.heap.size w w' := by
  by_cases hok : okb N root ps rows nodes
  · obtain ⟨h1, h2, h4, hsh⟩ := hok
    obtain ⟨M, rfl⟩ := Int.eq_ofNat_of_zero_le (show 0 ≤ N by omega)
    rw [Int.toNat_natCast] at hsh
    refine (checked_yes q n d b s c4 cp cr cn a4 ap ar an' root M ps rows nodes w (by omega) (by omega) h4 hsh ok hs hpl hnl hf4 hfp hfr hfn hl4 hp hr hn).mono ?_
    rintro e w' ⟨g, B, rfl, hd⟩
    rw [chk_says (by have := ok.h23; omega) (by omega) (by omega) h4 hsh] at hc
    rw [hc]
    exact ⟨_, rfl, hd.2.2.1⟩
  · refine (checked_no s c4 cp cr cn a4 ap ar an' root N ps rows nodes w hN1 hN2 hpl hnl hp hn hok).mono ?_
    rintro e w' ⟨rfl, hd⟩
    exact ⟨_, rfl, hd⟩
/-- what it takes that an Opening is taken -/
theorem chk_true {q n : Nat} {root : List Int} {N : Int} {ps : List Int} {rows nodes : List (List Int)} (h3 : 3 ≤ q) (h : chkf q n root N ps rows nodes = true) : ∃ M : Nat, N = (M : Int) ∧ 1 ≤ M ∧ M ≤ 65536 ∧ root.length = 4 ∧ shwn M ps rows nodes ∧ DV q n (M0 q n M ps rows nodes) 0 M = elr q root := by
  by_cases hok : okb N root ps rows nodes
  · obtain ⟨h1, h2, h4, hsh⟩ := hok
    obtain ⟨M, rfl⟩ := Int.eq_ofNat_of_zero_le (show 0 ≤ N by omega)
    rw [Int.toNat_natCast] at hsh
    rw [chk_says h3 (by omega) (by omega) h4 hsh, decide_eq_true_iff] at h
    exact ⟨M, rfl, by omega, by omega, h4, hsh, h⟩
  · rw [okb_iff hok] at h
    cases h
theorem checked_true (q n d b s c4 cp cr cn : Nat) (a4 ap ar an' : Option Addr) (root : List Int) (N : Nat) (ps : List Int) (rows nodes : List (List Int)) (w : World) (ok : SpgOk q n d) (hs : SpgAt w s b q n d) (hpl : ps.length ≤ 281474976710656) (hnl : nodes.length ≤ 281474976710656)
    (hf4 : Fits root) (hfp : Fits ps) (hfr : FitsR rows) (hfn : FitsR nodes) (hl4 : Lst w.heap.size w a4 c4 root) (hp : Lst w.heap.size w ap cp ps) (hr : LstR w.heap.size w ar cr rows) (hn : LstR w.heap.size w an' cn nodes) (h1 : 1 ≤ N) (h2 : N ≤ 65536) (h4 : root.length = 4) (hsh : shwn N ps rows nodes) (hd : DV q n (M0 q n N ps rows nodes) 0 N = elr q root) :
    Calls Tryz.prog 75 #[.pointer (some ⟨s, 0, none⟩), .slice a4 root.length c4, .int .i64 (N : Int), .agg #[.slice ap ps.length cp, .slice ar rows.length cr, .slice an' nodes.length cn]] w fun e w' => ∃ g B, e = .returned (.tuple #[.pointer (some ⟨g, 0, none⟩), .bool true]) ∧ Hid (WlkDone q n N ps rows nodes w g B s w') := by
  refine (checked_yes q n d b s c4 cp cr cn a4 ap ar an' root N ps rows nodes w h1 h2 h4 hsh ok hs hpl hnl hf4 hfp hfr hfn hl4 hp hr hn).mono ?_
  rintro e w' ⟨g, B, rfl, hdn⟩
  rw [decide_eq_true hd]
  exact ⟨g, B, rfl, hdn⟩

theorem CollR.no {q n : Nat} {tt : Prop} {w w' : World} (h : ¬ tt) (hb : Below w.heap.size w w') : CollR q n tt w (.returned (.tuple #[.slice none 0 0, .slice none 0 0, .bool false])) w' := ⟨.inl ⟨rfl, h⟩, hb⟩

/-- two Openings that came in -/
structure TwoO (q n d b s c4 cp cr cn cp2 cr2 cn2 : Nat) (a4 ap ar an' ap2 ar2 an2 : Option Addr) (root : List Int) (N : Int) (ps : List Int) (rows nodes : List (List Int)) (ps2 : List Int) (rows2 nodes2 : List (List Int)) (w : World) : Prop where
  ok : SpgOk q n d
  hs : SpgAt w s b q n d
  pl : ps.length ≤ 281474976710656
  nl : nodes.length ≤ 281474976710656
  pl2 : ps2.length ≤ 281474976710656
  nl2 : nodes2.length ≤ 281474976710656
  N1 : -9223372036854775808 ≤ N
  N2 : N ≤ 9223372036854775807
  f4 : Fits root
  fp : Fits ps
  fr : FitsR rows
  fn : FitsR nodes
  fp2 : Fits ps2
  fr2 : FitsR rows2
  fn2 : FitsR nodes2
  l4 : Lst w.heap.size w a4 c4 root
  lp : Lst w.heap.size w ap cp ps
  lr : LstR w.heap.size w ar cr rows
  ln : LstR w.heap.size w an' cn nodes
  lp2 : Lst w.heap.size w ap2 cp2 ps2
  lr2 : LstR w.heap.size w ar2 cr2 rows2
  ln2 : LstR w.heap.size w an2 cn2 nodes2
theorem TwoO.below {q n d b s c4 cp cr cn cp2 cr2 cn2 : Nat} {a4 ap ar an' ap2 ar2 an2 : Option Addr} {root : List Int} {N : Int} {ps : List Int} {rows nodes : List (List Int)} {ps2 : List Int} {rows2 nodes2 : List (List Int)} {w W : World} (h : TwoO q n d b s c4 cp cr cn cp2 cr2 cn2 a4 ap ar an' ap2 ar2 an2 root N ps rows nodes ps2 rows2 nodes2 w) (e : Below w.heap.size w W) : TwoO q n d b s c4 cp cr cn cp2 cr2 cn2 a4 ap ar an' ap2 ar2 an2 root N ps rows nodes ps2 rows2 nodes2 W :=
  ⟨h.ok, h.hs.keep e, h.pl, h.nl, h.pl2, h.nl2, h.N1, h.N2, h.f4, h.fp, h.fr, h.fn, h.fp2, h.fr2, h.fn2, (h.l4.below e).mono e.size, (h.lp.below e).mono e.size, (h.lr.below e).mono e.size, (h.ln.below e).mono e.size, (h.lp2.below e).mono e.size, (h.lr2.below e).mono e.size, (h.ln2.below e).mono e.size⟩

set_option maxRecDepth 100000 in
set_option maxHeartbeats 2000000 in
theorem collide_no (q n d b s c4 cp cr cn cp2 cr2 cn2 : Nat) (a4 ap ar an' ap2 ar2 an2 : Option Addr) (root : List Int) (N : Int) (ps : List Int) (rows nodes : List (List Int)) (ps2 : List Int) (rows2 nodes2 : List (List Int)) (w : World) (h : TwoO q n d b s c4 cp cr cn cp2 cr2 cn2 a4 ap ar an' ap2 ar2 an2 root N ps rows nodes ps2 rows2 nodes2 w)
    (hno : ¬ (chkf q n root N ps rows nodes = true ∧ chkf q n root N ps2 rows2 nodes2 = true)) :
    Calls Tryz.prog 29 #[.pointer (some ⟨s, 0, none⟩), .slice a4 root.length c4, .int .i64 N, .agg #[.slice ap ps.length cp, .slice ar rows.length cr, .slice an' nodes.length cn], .agg #[.slice ap2 ps2.length cp2, .slice ar2 rows2.length cr2, .slice an2 nodes2.length cn2]] w (CollR q n (chkf q n root N ps rows nodes = true ∧ chkf q n root N ps2 rows2 nodes2 = true ∧ Apart q ps rows ps2 rows2) w) := by
  have HNO : Hid (∀ w', Below w.heap.size w w' → CollR q n (chkf q n root N ps rows nodes = true ∧ chkf q n root N ps2 rows2 nodes2 = true ∧ Apart q ps rows ps2 rows2) w (.returned (.tuple #[.slice none 0 0, .slice none 0 0, .bool false])) w') := fun w' hb => CollR.no (fun hh => hno ⟨hh.1, hh.2.1⟩) hb
  have HT := hid h
  have HO1 := hid (tri_arr ((tri_new w 49 (.slice ap ps.length cp) (.slice ar rows.length cr) (.slice an' nodes.length cn)).alloc (.cells #[.slice ap2 ps2.length cp2, .slice ar2 rows2.length cr2, .slice an2 nodes2.length cn2] 49)))
  have HO2 : Hid (((w.alloc (.cells #[.slice ap ps.length cp, .slice ar rows.length cr, .slice an' nodes.length cn] 49)).alloc (.cells #[.slice ap2 ps2.length cp2, .slice ar2 rows2.length cr2, .slice an2 nodes2.length cn2] 49)).heap[w.heap.size + 1]? = some (.cells #[.slice ap2 ps2.length cp2, .slice ar2 rows2.length cr2, .slice an2 nodes2.length cn2] 49 (0, 0))) := by
    have := tri_arr (tri_new (w.alloc (.cells #[.slice ap ps.length cp, .slice ar rows.length cr, .slice an' nodes.length cn] 49)) 49 (.slice ap2 ps2.length cp2) (.slice ar2 rows2.length cr2) (.slice an2 nodes2.length cn2))
    rwa [show (w.alloc (.cells #[.slice ap ps.length cp, .slice ar rows.length cr, .slice an' nodes.length cn] 49)).heap.size = w.heap.size + 1 from by simp] at this
  have HB0 : Hid (Below w.heap.size w ((w.alloc (.cells #[.slice ap ps.length cp, .slice ar rows.length cr, .slice an' nodes.length cn] 49)).alloc (.cells #[.slice ap2 ps2.length cp2, .slice ar2 rows2.length cr2, .slice an2 nodes2.length cn2] 49))) := ((Below.refl _ _).alloc (Nat.le_refl _) _).alloc (by simp) _
  clear h
  generalize CollR q n (chkf q n root N ps rows nodes = true ∧ chkf q n root N ps2 rows2 nodes2 = true ∧ Apart q ps rows ps2 rows2) w = RR at *
  cases hcA : chkf q n root N ps rows nodes with
  | false =>
    have HC1 : Hid (∀ W, Below w.heap.size w W → Calls Tryz.prog 75 #[.pointer (some ⟨s, 0, none⟩), .slice a4 root.length c4, .int .i64 N, .agg #[.slice ap ps.length cp, .slice ar rows.length cr, .slice an' nodes.length cn]] W fun e w' => ∃ v, e = .returned (.tuple #[v, .bool false]) ∧ Below W.heap.size W w') := fun W hb => by
      have h := HT.out.below hb
      exact checked_false q n d b s c4 cp cr cn a4 ap ar an' root N ps rows nodes W h.ok h.hs h.pl h.nl h.N1 h.N2 h.f4 h.fp h.fr h.fn h.l4 h.lp h.lr h.ln hcA
    clear hcA hno
    go_enter Tryz.func29, Tryz.ntmps29
    go_wp2_with fail
    generalize ((w.alloc (.cells #[.slice ap ps.length cp, .slice ar rows.length cr, .slice an' nodes.length cn] 49)).alloc (.cells #[.slice ap2 ps2.length cp2, .slice ar2 rows2.length cr2, .slice an2 nodes2.length cn2] 49)) = W0 at *
    have k0 := opn_c0 HO1.out
    have k1 := opn_c1 HO1.out
    have k2 := opn_c2 HO1.out
    go_wp2_with fail
    refine (HC1.out W0 HB0.out).mono ?_
    rintro e w1 ⟨v, rfl, hb1⟩
    have HX := hid (HNO.out w1 (HB0.out.trans (hb1.mono HB0.out.size)))
    clear hb1
    go_wp2_with fail
    go_ret3
    exact HX.out
  | true =>
    have hcB : chkf q n root N ps2 rows2 nodes2 = false := by
      cases hc : chkf q n root N ps2 rows2 nodes2 with
      | false => rfl
      | true => exact absurd ⟨hcA, hc⟩ hno
    obtain ⟨M, rfl, m1, m2, h4, hsh, hdv⟩ := chk_true (by have := HT.out.ok.h23; omega) hcA
    have HC1 : Hid (∀ W, Below w.heap.size w W → Calls Tryz.prog 75 #[.pointer (some ⟨s, 0, none⟩), .slice a4 root.length c4, .int .i64 (M : Int), .agg #[.slice ap ps.length cp, .slice ar rows.length cr, .slice an' nodes.length cn]] W fun e w' => ∃ g B, e = .returned (.tuple #[.pointer (some ⟨g, 0, none⟩), .bool true]) ∧ Hid (WlkDone q n M ps rows nodes W g B s w')) := fun W hb => by
      have h := HT.out.below hb
      exact checked_true q n d b s c4 cp cr cn a4 ap ar an' root M ps rows nodes W h.ok h.hs h.pl h.nl h.f4 h.fp h.fr h.fn h.l4 h.lp h.lr h.ln m1 m2 h4 hsh hdv
    have HC2 : Hid (∀ W, Below w.heap.size w W → Calls Tryz.prog 75 #[.pointer (some ⟨s, 0, none⟩), .slice a4 root.length c4, .int .i64 (M : Int), .agg #[.slice ap2 ps2.length cp2, .slice ar2 rows2.length cr2, .slice an2 nodes2.length cn2]] W fun e w' => ∃ v, e = .returned (.tuple #[v, .bool false]) ∧ Below W.heap.size W w') := fun W hb => by
      have h := HT.out.below hb
      exact checked_false q n d b s c4 cp2 cr2 cn2 a4 ap2 ar2 an2 root M ps2 rows2 nodes2 W h.ok h.hs h.pl2 h.nl2 h.N1 h.N2 h.f4 h.fp2 h.fr2 h.fn2 h.l4 h.lp2 h.lr2 h.ln2 hcB
    clear hcA hcB hno h4 hsh hdv
    go_enter Tryz.func29, Tryz.ntmps29
    go_wp2_with fail
    generalize ((w.alloc (.cells #[.slice ap ps.length cp, .slice ar rows.length cr, .slice an' nodes.length cn] 49)).alloc (.cells #[.slice ap2 ps2.length cp2, .slice ar2 rows2.length cr2, .slice an2 nodes2.length cn2] 49)) = W0 at *
    have k0 := opn_c0 HO1.out
    have k1 := opn_c1 HO1.out
    have k2 := opn_c2 HO1.out
    go_wp2_with fail
    refine (HC1.out W0 HB0.out).mono ?_
    rintro e w1 ⟨g, B, rfl, hdn⟩
    have HB1 := hid (HB0.out.trans (hdn.out.2.2.1.mono HB0.out.size))
    have ho2 := (hdn.out.2.2.1.block _ (Array.getElem?_eq_some_iff.1 HO2.out).1).trans HO2.out
    have k0' := opn_c0 ho2
    have k1' := opn_c1 ho2
    have k2' := opn_c2 ho2
    clear hdn ho2 k0 k1 k2
    go_wp2_with fail
    refine (HC2.out w1 HB1.out).mono ?_
    rintro e w2 ⟨v, rfl, hb2⟩
    have HX := hid (HNO.out w2 (HB1.out.trans (hb2.mono HB1.out.size)))
    clear hb2
    go_wp2_with fail
    go_ret3
    exact HX.out

end Go.Proofs.YtmmlphdekeflfaaGreatDoor
