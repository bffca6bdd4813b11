/- SourceAgain: the walk. -/
import Derived.Test.YthpkcageimhgaaaDoorSwL
import Derived.Test.YthpkcageimhgaaaDoorSqAU
namespace Go.Proofs.YthpkcageimhgaaaDoor
open Go.RowKit Go.Maps

theorem PgAt.beloA {lo : Nat} {w w' : World} {p : Nat} {fs : List FnT} (h : PgAt lo w p fs) (hb : Below w.heap.size w w') : PgAt lo w' p fs := by
  obtain ⟨pa, pc, B, h1, h2, h3, h4, h5, h6⟩ := h
  exact ⟨pa, pc, B, (hb.block _ (Array.getElem?_eq_some_iff.1 h1).1).trans h1, h2, h3, h4, h5.below hb, h6.below hb⟩
theorem prs_szA {T : ByteArray} {fs : List FnT} {j : Nat} (h : prs T = .ok fs j) (hT : T.size ≤ 4000) : pwgt fs ≤ 4000 := by
  unfold prs pRes at h
  cases hq : pProg (by' T) (4 * T.size + 1) [] 0 with
  | out => rw [hq] at h; cases h
  | bad e a => rw [hq] at h; cases h
  | ok gs k =>
    rw [hq] at h
    have hz := pProg_sz (by' T) (4 * T.size + 1) [] 0 (Nat.zero_le _) gs k hq
    have hx := pProg_al (by' T) (by rw [by_len]; exact hT) (4 * T.size + 1) [] 0 (by simp) (Nat.le_refl _) (Nat.zero_le _)
    rw [hq] at hx
    have hx2 := hx.1.2
    rw [by_len] at hx2
    cases hc : ckn gs (by' T).length with
    | some y => simp [hc] at h
    | none =>
      simp [hc] at h
      obtain ⟨rfl, rfl⟩ := h
      have : pwgt ([] : List FnT) = 0 := rfl
      omega
theorem neq_strA (s : ByteArray) (w : World) : (binOp BinOp.neq 9 (.string s) (.string s)).run Tryd.prog w = .ok (.bool false) w := by
  simp [go_sem]
theorem eq_strA (s : ByteArray) (w : World) : (binOp BinOp.eql 9 (.string s) (.string s)).run Tryd.prog w = .ok (.bool true) w := by
  simp [go_sem]
/-- the chapter's text, and what is written of it -/
def tx0 : List UInt8 := [102, 110, 32, 109, 97, 105, 110, 40, 41, 61, 40, 49, 45, 40, 50, 45, 51, 41, 41, 42, 45, 40, 52, 43, 53, 41]
def tx1 : List UInt8 := [102, 110, 32, 109, 97, 105, 110, 40, 41, 32, 61, 32, 40, 49, 32, 45, 32, 40, 50, 32, 45, 32, 51, 41, 41, 32, 42, 32, 45, 40, 52, 32, 43, 32, 53, 41, 10]
def fs0 : List FnT := [⟨[109, 97, 105, 110], 3, [], .node 6 [] 0 0 [.node 5 [] 0 0 [.node 0 [] 0 1 [], .node 5 [] 0 0 [.node 0 [] 0 2 [], .node 0 [] 0 3 []]], .node 3 [] 0 0 [.node 4 [] 0 0 [.node 0 [] 0 4 [], .node 0 [] 0 5 []]]]⟩]
theorem prs0 : prs (bs tx0) = .ok fs0 26 := by kernel_rfl
theorem prP0 : prP itN fs0 1 = tx1 := by kernel_rfl
theorem pw0 : pwgt fs0 = 10 := by kernel_rfl

set_option maxRecDepth 100000 in
set_option maxHeartbeats 4000000 in
theorem sagain_walk (T : ByteArray) (w : World) (hEv : EvW w) (hPw : PowW w) (hT : T.size ≤ 281474976710656) :
    Calls Tryd.prog 3 #[.string T] w fun e w' => e = .returned (.bool true) ∧ Below w.heap.size w w' := by
  have hns := neq_strA
  have hes := eq_strA
  have HP0 := parse_is (bs tx0) w (by decide) hEv
  rw [prs0] at HP0
  have HPS0 := hid HP0
  have HPS := hid (fun (W : World) (hb : Below w.heap.size w W) => parse_is T W hT (hEv.below hb))
  have HPT := hid (fun (U : ByteArray) (hU : U.size ≤ 4000) (W : World) (hb : Below w.heap.size w W) => parse_is U W (by omega) (hEv.below hb))
  have HSZ := hid (fun (fs : List FnT) (j : Nat) (h : prs T = .ok fs j) (h4 : T.size ≤ 4000) => prs_szA h h4)
  have HAG := hid (fun (fs : List FnT) (j : Nat) (h : prs T = .ok fs j) (h4 : T.size ≤ 4000) => again_prs h h4)
  have HPW := hid (fun (W : World) (hb : Below w.heap.size w W) => hPw.below hb hPw.lt)
  clear HP0 hEv hT hPw
  generalize prs T = r at HPS HSZ HAG
  have e0 : bs tx0 = ⟨#[102, 110, 32, 109, 97, 105, 110, 40, 41, 61, 40, 49, 45, 40, 50, 45, 51, 41, 41, 42, 45, 40, 52, 43, 53, 41]⟩ := rfl
  have z0 : (bs tx0).size = 26 := rfl
  rw [z0, e0] at HPS0
  clear e0 z0
  go_enter Tryd.func3, Tryd.ntmps3
  go_wp2_with fail
  refine HPS0.out.mono ?_
  intro e w2 he
  obtain ⟨hb2, he⟩ := he
  rw [if_neg (by decide)] at he
  obtain ⟨⟨pg0, rfl, hPg0⟩, hfw0, hn0⟩ := he
  have HB2 := hid hb2
  have HPP0 := hid (pprint_any itN PowW itN_len PowW.keep itN_any w.heap.size pg0 fs0 w2 (HPW.out w2 hb2) hPg0 hfw0 hn0 (by rw [pw0]; omega))
  rw [show fs0.length = 1 from rfl, prP0, show bs tx1 = ⟨#[102, 110, 32, 109, 97, 105, 110, 40, 41, 32, 61, 32, 40, 49, 32, 45, 32, 40, 50, 32, 45, 32, 51, 41, 41, 32, 42, 32, 45, 40, 52, 32, 43, 32, 53, 41, 10]⟩ from rfl] at HPP0
  clear HPS0 hb2 hPg0 hfw0 hn0
  go_wp2_with fail
  refine HPP0.out.mono ?_
  rintro e w3 ⟨rfl, hb3⟩
  have HB3 := hid (HB2.out.trans (hb3.mono HB2.out.size))
  clear HPP0 hb3 HB2
  go_wp2_with fail
  refine (HPS.out w3 HB3.out).mono ?_
  intro e w4 he
  obtain ⟨hb4, he⟩ := he
  have HB4 := hid (HB3.out.trans (hb4.mono HB3.out.size))
  clear HPS hb4
  by_cases h40 : 4000 < T.size
  · rw [if_pos h40] at he
    subst he
    clear h40 HSZ HAG HPW HPT
    go_wp2_with fail
    go_ret
    exact ⟨by simp, HB4.out⟩
  · rw [if_neg h40] at he
    cases r with
    | out => exact he.elim
    | bad er at' =>
      have he' : e = .returned (.tuple #[.pointer none, .int .i64 (at' : Int), .iface 30 (.int .i64 (er : Int))]) := he
      subst he'
      clear h40 HSZ HAG HPW HPT
      go_wp2_with fail
      go_ret
      exact ⟨by simp, HB4.out⟩
    | ok fs j =>
      obtain ⟨⟨pg, rfl, hPg⟩, hfw, hn4⟩ := he
      have hsz := HSZ.out fs j rfl (by omega)
      obtain ⟨fs', j', hp', hpr', hwg⟩ := HAG.out fs j rfl (by omega)
      have HPP := hid (pprint_any itN PowW itN_len PowW.keep itN_any w3.heap.size pg fs w4 (HPW.out w4 HB4.out) hPg hfw hn4 (by omega))
      have HPE := hid (fun (W : World) (hb : Below w4.heap.size w4 W) => pweight_any w3.heap.size pg fs W (hPg.beloA hb) hfw hn4 (by omega))
      obtain ⟨S, hS⟩ : ∃ S, S = bs (prP itN fs fs.length) := ⟨_, rfl⟩
      rw [← hS] at HPP hp'
      have HQ := hid (fun (hU : S.size ≤ 4000) (W : World) (hb : Below w.heap.size w W) => hp' ▸ HPT.out S hU W hb)
      have HQP := hid (fun (lo p : Nat) (W : World) (hb : Below w.heap.size w W) (h1 : PgAt lo W p fs') (h2 : ∀ g, g ∈ fs' → FW g) (h3 : fs'.length ≤ 4000) => pprint_any itN PowW itN_len PowW.keep itN_any lo p fs' W (HPW.out W hb) h1 h2 h3 (by omega))
      have HQE := hid (fun (lo p : Nat) (W : World) (h1 : PgAt lo W p fs') (h2 : ∀ g, g ∈ fs' → FW g) (h3 : fs'.length ≤ 4000) => pweight_any lo p fs' W h1 h2 h3 (by omega))
      rw [hpr', ← hS] at HQP
      rw [hwg] at HQE
      clear hPg hfw hn4 h40 HSZ HAG HPW HPT hS hpr' hp' hwg hsz
      generalize ((pwgt fs : Nat) : Int) = WP at *
      go_wp2_with fail
      refine HPP.out.mono ?_
      rintro e w5 ⟨rfl, hb5⟩
      have H5 := hid hb5
      have HB5 := hid (HB4.out.trans (hb5.mono HB4.out.size))
      clear HPP hb5
      by_cases h4 : 4000 < S.size
      · have h4i : (4000 : Int) < (S.size : Int) := by omega
        clear HQ HQP HQE HPE
        go_wp2_with fail
        go_ret
        exact ⟨by simp, HB5.out⟩
      · have h4i : ¬ (4000 : Int) < (S.size : Int) := by omega
        have HQ6 := hid (HQ.out (by omega) w5 HB5.out)
        have H4 := hid h4
        clear HQ h4
        go_wp2_with fail
        refine HQ6.out.mono ?_
        rintro e w6 ⟨hb6, he⟩
        rw [if_neg H4.out] at he
        obtain ⟨⟨pq, rfl, hPq⟩, hfw', hn'⟩ := he
        have H6 := hid (H5.out.trans (hb6.mono H5.out.size))
        have HB6 := hid (HB5.out.trans (hb6.mono HB5.out.size))
        have HT := hid (HQP.out _ pq w6 HB6.out hPq hfw' hn')
        have HE := hid (fun (W : World) (hb : Below w6.heap.size w6 W) => HQE.out _ pq W (hPq.beloA hb) hfw' hn')
        clear hb6 hPq hfw' hn' HQ6 HQP HQE H5 HB5 HB4 HB3
        go_wp2_with fail
        refine HT.out.mono ?_
        rintro e w7 ⟨rfl, hb7⟩
        have H7 := hid (H6.out.trans (hb7.mono H6.out.size))
        have H7' := hid hb7
        have HB7 := hid (HB6.out.trans (hb7.mono HB6.out.size))
        clear hb7 HT H6 HB6
        go_wp2_with fail
        refine (HPE.out w7 H7.out).mono ?_
        rintro e w8 ⟨rfl, hb8⟩
        have H8' := hid (H7'.out.trans (hb8.mono H7'.out.size))
        have HB8 := hid (HB7.out.trans (hb8.mono HB7.out.size))
        clear hb8 HPE H7 H7' HB7
        go_wp2_with fail
        refine (HE.out w8 H8'.out).mono ?_
        rintro e w9 ⟨rfl, hb9⟩
        have HB9 := hid (HB8.out.trans (hb9.mono HB8.out.size))
        clear hb9 HE H8' HB8
        have q3 : (WP == WP) = true := by simp
        go_wp2_with fail
        go_ret
        exact ⟨by simp, HB9.out⟩

end Go.Proofs.YthpkcageimhgaaaDoor
