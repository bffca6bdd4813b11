/- attestref3, the trees: Nodes. -/
import Derived.Test.YtionbilheeheaaeGreatDoorTreC
namespace Go.Proofs.YtionbilheeheaaeGreatDoor
open Go.RowKit

theorem LstD.slr {w : World} {g N : Nat} {l : List Int} (h : LstD w g N l) : SlR w l (.slice (some ⟨g, 0, none⟩) l.length N) := by
  obtain ⟨h1, c, f, h2⟩ := h
  exact ⟨_, _, rfl, h1, fun _ => ⟨g, 0, rfl, c, 3, f, h2, by decide, by decide⟩⟩

/-- [][]int{r} -/
theorem own_one {w : World} {r : List Int} {u : Value} (h : SlR w r u) : OwnR w.heap.size (w.alloc (.cells #[u] 23)) (.slice (some ⟨w.heap.size, 0, none⟩) 1 1) [r] := by
  have hb : Below w.heap.size w (w.alloc (.cells #[u] 23)) := (Below.refl _ _).alloc (Nat.le_refl _) _
  refine ⟨[u], ⟨by simp, .inr ⟨w.heap.size, 1, #[u], rfl, Nat.le_refl _, heap_alloc_new w _, Nat.le_refl _, by unfold maxLen; omega, rfl, by simp⟩⟩, fun j hj => ?_⟩
  obtain rfl : j = 0 := by simp at hj; exact hj
  exact ⟨u, rfl, h.keep hb⟩

/-- append(a, b...) of two that the call owns -/
theorem wpList_rowsR {ops : Array Oper} {rest : List Oper} {o : Oper} {act : Act} {Q : Exit → Act → World → Prop} (W : World) (base base2 : Nat) (hgd : o.guard = none) (s x : Operand)
    (ho : o.op = .call { callee := .builtin .append, args := #[s, x], argTypes := #[22, 22] }) (v vb : Value) (rs ts : List (List Int))
    (hown : OwnR base W v rs) (hob : OwnR base2 W vb ts) (hs : act.eval s = v) (hx : act.eval x = vb) (hlen : rs.length + ts.length ≤ 5864062014805) (hbase : base ≤ W.heap.size)
    (h : ∀ v' w2, OwnR base w2 v' (rs ++ ts) → Below base W w2 → wpList Tryz.prog ops Q rest (act.put o.dst v') w2) :
    wpList Tryz.prog ops Q (o :: rest) act W := by
  obtain ⟨i0, hi, hz0, hz1, hz2⟩ := info_parts Tryz.infoSl
  have hob' := hob
  obtain ⟨us, h1, h2⟩ := hob
  rcases h1.2 with ⟨rfl, h0⟩ | ⟨g, cap, cur, rfl, hb, hg, hn, hm, hsz, ht⟩
  · obtain rfl : ts = [] := List.length_eq_zero_iff.1 h0
    have hown' := hown
    obtain ⟨vals, h3, _⟩ := hown
    refine wpList_append_own_none hgd s x 22 ho base 23 i0 1 Tryz.underlying22 hi _ _ _ hs h3 hx ?_
    rw [List.append_nil] at h
    exact h v W hown' (Below.refl _ _)
  · refine wpList_rows W base hgd s x ho v rs ts hown hs ⟨g, 0, none⟩ ts.length cap rfl hx us (by have := h1.1; omega) (fun j u hu => ?_) h2 hlen hbase (fun v' w2 k1 k2 _ => h v' w2 k1 k2)
    have hj : j < ts.length := by
      have := (List.getElem?_eq_some_iff.1 hu).1
      have := h1.1
      omega
    have hadd : (⟨g, 0, none⟩ : Addr).add j = ⟨g, j, none⟩ := by unfold Addr.add; split <;> simp_all
    rw [hadd, h1.cellAt j (by omega), hu]

/-- what stands for all that is not shown, with fuel -/
def ndf (q n : Nat) : Nat → List (List Int) → List Int → Int → List (List Int)
  | 0, _, _, _ => []
  | k + 1, rows, ps, first => if smb ps first (first + (rows.length : Int)) = false then [rtf q n (k + 1) rows] else if rows.length = 1 then [] else
    ndf q n k (rows.take (lft rows.length)) ps first ++ ndf q n k (rows.drop (lft rows.length)) ps (first + ((lft rows.length : Nat) : Int))
theorem ndf_len (q n : Nat) : ∀ (k : Nat) (rows : List (List Int)) (ps : List Int) (first : Int), 1 ≤ rows.length → (ndf q n k rows ps first).length ≤ rows.length
  | 0, _, _, _, _ => by simp [ndf]
  | k + 1, rows, ps, first, h => by
    simp only [ndf]
    split
    · simpa using h
    · split
      · simp
      · rename_i h1
        obtain ⟨_, l2, l3⟩ := lft_spec rows.length
        have l3' := l3 (by omega)
        have a1 := ndf_len q n k (rows.take (lft rows.length)) ps first (by rw [List.length_take]; omega)
        have a2 := ndf_len q n k (rows.drop (lft rows.length)) ps (first + ((lft rows.length : Nat) : Int)) (by rw [List.length_drop]; omega)
        rw [List.length_take] at a1
        rw [List.length_drop] at a2
        rw [List.length_append]
        omega

set_option maxRecDepth 100000 in
set_option maxHeartbeats 1000000 in
theorem rnodes_any (q n : Nat) (h5 : 5 ≤ q) (h4 : q ≤ 2147483647) (hpn : Spo.PowIs q n) (cp : Nat) (ap : Option Addr) (ps : List Int) (hps : ps.length ≤ 281474976710656) : ∀ (k cap : Nat) (a : Option Addr) (rows : List (List Int)) (first : Int) (w : World), 1 ≤ rows.length → rows.length ≤ k → rows.length ≤ 65536 → 0 ≤ first → first + (rows.length : Int) ≤ 1000000000 → FitsR rows → LstR w.heap.size w a cap rows → RowB w.heap.size w ap ps →
    Calls Tryz.prog 38 #[.int .i64 q, .slice a rows.length cap, .slice ap ps.length cp, .int .i64 first] w fun e w' => ∃ v, e = .returned v ∧ OwnR w.heap.size w' v (ndf q n k rows ps first) ∧ Below w.heap.size w w'
  | 0, _, _, rows, _, _, h1, h2, _, _, _, _, _, _ => by omega
  | k + 1, cap, a, rows, first, w, h1, h2, hmx, hf0, hf1, hfit, hl, hrp => by
    have HPN := hid hpn
    have HFR := hid hfit
    have HL := hid hl
    have HRP := hid hrp
    have HSM := hid (rsome_any cp ap ps first (first + (rows.length : Int)) w hps hrp)
    have hw1 : IntKind.i64.wrap (first + (rows.length : Int)) = first + (rows.length : Int) := by rw [IntKind.wrap_i64]; omega
    by_cases hsm : smb ps first (first + (rows.length : Int)) = false
    · have HND : Hid (ndf q n (k + 1) rows ps first = [rtf q n (k + 1) rows]) := by unfold Hid; simp only [ndf]; rw [if_pos hsm]
      have HRT := hid (rroot_any2 q n h5 h4 hpn (k + 1) cap a rows w h1 h2 (by omega) hfit hl)
      have HLN : Hid ((rtf q n (k + 1) rows).length = 4) := rtf_len q n (k + 1) rows (by omega)
      rw [hsm] at HSM
      rw [HND.out]
      clear hl hfit hsm HND hrp h1 h2 HL HFR HRP
      generalize rtf q n (k + 1) rows = R at *
      go_enter Tryz.func38, Tryz.ntmps38
      go_wp2_with fail
      refine HSM.out.mono ?_
      rintro e w1 ⟨rfl, rfl⟩
      go_wp2_with fail
      refine HRT.out.mono ?_
      rintro e w2 ⟨g, N, rfl, h6, h7, h8⟩
      have HS := hid h7.slr
      rw [HLN.out] at HS
      have HB := hid h8
      clear h6 h7 h8
      go_wp2_with fail
      go_ret
      exact ⟨_, rfl, (own_one HS.out).mono HB.out.size, HB.out.alloc HB.out.size _⟩
    · have hsm2 : smb ps first (first + (rows.length : Int)) = true := by simpa using hsm
      rw [hsm2] at HSM
      by_cases hone : rows.length = 1
      · have HND : Hid (ndf q n (k + 1) rows ps first = []) := by unfold Hid; simp only [ndf]; rw [if_neg hsm, if_pos hone]
        rw [HND.out]
        have hob : ((rows.length : Int) == 1) = true := by rw [hone]; rfl
        clear hl hfit hsm hsm2 HND hrp h1 h2 HL HFR HRP hone
        go_enter Tryz.func38, Tryz.ntmps38
        go_wp2_with fail
        refine HSM.out.mono ?_
        rintro e w1 ⟨rfl, rfl⟩
        go_wp2_with fail
        go_ret
        exact ⟨_, rfl, OwnR.nil _ _, Below.refl _ _⟩
      · obtain ⟨_, l2, l3⟩ := lft_spec rows.length
        have l3' := l3 (by omega)
        have HND : Hid (ndf q n (k + 1) rows ps first = ndf q n k (rows.take (lft rows.length)) ps first ++ ndf q n k (rows.drop (lft rows.length)) ps (first + ((lft rows.length : Nat) : Int))) := by unfold Hid; simp only [ndf]; rw [if_neg hsm, if_neg hone]
        have HLF := hid (fun W : World => rleft_any rows.length W (by omega))
        obtain ⟨b, o, _, _, rfl, _, _, _⟩ := hl.row 0 (by omega)
        obtain ⟨m, hm⟩ : ∃ m, m = lft rows.length := ⟨_, rfl⟩
        rw [← hm] at HND HLF l2 l3'
        have hroom := hl.room
        have HTK : Hid ((rows.take m).length = m) := by unfold Hid; rw [List.length_take]; omega
        have HDK : Hid ((rows.drop m).length = rows.length - m) := List.length_drop
        have HIA : Hid (∀ W : World, Below w.heap.size w W → Calls Tryz.prog 38 #[.int .i64 q, .slice (some ⟨b, o, none⟩) m cap, .slice ap ps.length cp, .int .i64 first] W fun e w' => ∃ v, e = .returned v ∧ OwnR W.heap.size w' v (ndf q n k (rows.take m) ps first) ∧ Below W.heap.size W w') := fun W h => by
          have := rnodes_any q n h5 h4 hpn cp ap ps hps k cap (some ⟨b, o, none⟩) (rows.take m) first W (by rw [HTK.out]; omega) (by rw [HTK.out]; omega) (by rw [HTK.out]; omega) hf0 (by rw [HTK.out]; omega) (hfit.take m) (((hl.take m).below h).mono h.size) ((hrp.below h).mono h.size)
          rwa [HTK.out] at this
        have HIB : Hid (∀ W : World, Below w.heap.size w W → Calls Tryz.prog 38 #[.int .i64 q, .slice (some ⟨b, o + m, none⟩) (rows.length - m) (cap - m), .slice ap ps.length cp, .int .i64 (first + (m : Int))] W fun e w' => ∃ v, e = .returned v ∧ OwnR W.heap.size w' v (ndf q n k (rows.drop m) ps (first + (m : Int))) ∧ Below W.heap.size W w') := fun W h => by
          have := rnodes_any q n h5 h4 hpn cp ap ps hps k (cap - m) (some ⟨b, o + m, none⟩) (rows.drop m) (first + (m : Int)) W (by rw [HDK.out]; omega) (by rw [HDK.out]; omega) (by rw [HDK.out]; omega) (by omega) (by rw [HDK.out]; omega) (hfit.drop m) (((hl.drop m).below h).mono h.size) ((hrp.below h).mono h.size)
          rwa [HDK.out] at this
        have HNA := hid (ndf_len q n k (rows.take m) ps first (by rw [HTK.out]; omega))
        have HNB := hid (ndf_len q n k (rows.drop m) ps (first + (m : Int)) (by rw [HDK.out]; omega))
        have hla : (ndf q n k (rows.take m) ps first).length ≤ 65536 := by have := HNA.out; rw [HTK.out] at this; omega
        have hlb : (ndf q n k (rows.drop m) ps (first + (m : Int))).length ≤ 65536 := by have := HNB.out; rw [HDK.out] at this; omega
        rw [HND.out]
        obtain ⟨RA, hRA⟩ : ∃ RA, RA = ndf q n k (rows.take m) ps first := ⟨_, rfl⟩
        obtain ⟨RB, hRB⟩ : ∃ RB, RB = ndf q n k (rows.drop m) ps (first + (m : Int)) := ⟨_, rfl⟩
        rw [← hRA] at HIA hla ⊢
        rw [← hRB] at HIB hlb ⊢
        have hob : ((rows.length : Int) == 1) = false := by rw [beq_eq_false_iff_ne]; omega
        have e1 : (m : Int) ≤ (rows.length : Int) := by omega
        have e2 : (m : Int) ≤ (cap : Int) := by omega
        have e3 : ¬ cap = m := by omega
        have e4 : (rows.length : Int) ≤ (cap : Int) := by omega
        have hw2 : IntKind.i64.wrap (first + (m : Int)) = first + (m : Int) := by rw [IntKind.wrap_i64]; omega
        generalize rows.length = len at *
        clear hl hfit hone HND hm l3 HTK HDK HL HFR hRA hRB h1 h2 hsm hsm2 HNA HNB hrp
        go_enter Tryz.func38, Tryz.ntmps38
        go_wp2_with fail
        refine HSM.out.mono ?_
        rintro e w0 ⟨rfl, rfl⟩
        go_wp2_with fail
        refine (HLF.out _).mono ?_
        rintro e w1 ⟨rfl, rfl⟩
        go_wp2_with fail
        refine (HIA.out _ (Below.refl _ _)).mono ?_
        rintro e w2 ⟨va, rfl, h6, h8⟩
        have HB2 := hid h8
        have HA2 := hid h6
        clear h6 h8
        go_wp2_with fail
        refine (HIB.out _ HB2.out).mono ?_
        rintro e w3 ⟨vb, rfl, h6, h8⟩
        have HB3 : Hid (Below w1.heap.size w1 w3) := HB2.out.trans (h8.mono HB2.out.size)
        have HA3 := hid (HA2.out.keep h8)
        have HBB := hid h6
        clear h6 h8
        go_wp2_with (at_builtin; refine wpList_rowsR w3 w1.heap.size w2.heap.size rfl _ _ rfl va vb RA RB HA3.out HBB.out rfl rfl (by omega) HB3.out.size ?_)
        intro v4 w4 h6 h8
        have HE : Hid (OwnR w1.heap.size w4 v4 (RA ++ RB) ∧ Below w1.heap.size w1 w4) := ⟨h6, HB3.out.trans h8⟩
        clear h6 h8
        go_wp2_with fail
        go_ret
        exact ⟨v4, rfl, HE.out.1, HE.out.2⟩

end Go.Proofs.YtionbilheeheaaeGreatDoor
