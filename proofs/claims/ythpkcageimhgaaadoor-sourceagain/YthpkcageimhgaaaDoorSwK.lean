/- Package source: all parts of an expression gone through, with what each round keeps. -/
import Derived.Test.YthpkcageimhgaaaDoorSrZ
namespace Go.Proofs.YthpkcageimhgaaaDoor
open Go.RowKit Go.Shelf

attribute [local go_sem] Oper.semAt_some

theorem tszs_step : ∀ (kids : List Tr) (i : Nat) (t : Tr), kids[i]? = some t → tszs (kids.take (i + 1)) = tszs (kids.take i) + tsz t
  | [], i, t, h => by simp at h
  | x :: r, 0, t, h => by simp at h; subst h; simp [tszs]
  | x :: r, i + 1, t, h => by
    have := tszs_step r i t (by simpa using h)
    simp only [List.take_succ_cons, tszs]
    omega
theorem PTB.formB {B : Nat → Prop} {w : World} {t : Tr} {v : Value} (h : PTB B w t v) : ∃ b, v = .pointer (some ⟨b, 0, none⟩) := by
  obtain ⟨k, nm, at', n, kids⟩ := t
  obtain ⟨b, _, _, h1, _⟩ := h
  exact ⟨b, h1⟩

set_option maxRecDepth 100000 in
set_option maxHeartbeats 2000000 in
theorem walkJ (l L0 : Nat) (W0 : World) (J : Nat → World → Prop) (hJb : ∀ j W, J j W → Below L0 W0 W) (hJa : ∀ j W o, J j W → J j (W.alloc o))
    (hY : ∀ (j : Nat) (W : World) (b : Nat) (a : Option Addr), J j W → YieldAt Fence.wide 0 Tryd.prog l #[.pointer (some ⟨b, 0, none⟩), .pointer a] W (fun e W' => e = .returned (.bool true) ∧ J (j + 1) W')) :
    ∀ (N : Nat) (t : Tr) (v : Value) (a : Option Addr) (W : World) (m j : Nat), tsz t ≤ N → J j W → PTB (fun b => b < L0) W0 t v → TOk t →
      CallsIn Fence.wide m Tryd.prog 20 #[v, .pointer a, .func (.yield l) #[] #[]] W (fun e W' => e = .returned (.bool true) ∧ J (j + tsz t) W')
  | 0, .node k nm at' n kids, v, a, W, m, j, hN, _, _, _ => by rw [tsz] at hN; omega
  | N + 1, .node k nm at' n kids, v, a, W, m, j, hN, hJ, hP, hO => by
    have ih := walkJ l L0 W0 J hJb hJa hY N
    have hnot : ∀ (x : Bool) (w : World), (Op.unary .not (.bool x)).run Tryd.prog w = .ok (.bool (!x)) w := fun _ _ => rfl
    obtain ⟨b, av, c, rfl, hbL, hb, hks⟩ := hP
    rw [tsz] at hN ⊢
    have HIH := hid ih
    have HJA := hid hJa
    have HJB := hid hJb
    have HKS := hid hks
    have HB : Hid (∀ j W, J j W → W.heap[b]? = some (.cells #[.int .i64 (k : Int), .string (bs nm), .int .i64 (at' : Int), .int .i64 (n : Int), .slice av kids.length c] 84 (0, 0))) := fun j W h => ((hJb j W h).block b hbL).trans hb
    have HO : Hid (nm.length ≤ 4000 ∧ kids.length ≤ 4000 ∧ TOks kids) := hO
    have HN := hid hN
    have hy := hY j W b a hJ
    obtain ⟨fn, tmps, assign, body, hyr, hR⟩ := hy
    have HR := hid hR
    clear hR ih hks hb hbL hO hN hJa hJb hY
    refine callsIn_of_wp Tryd.func20 rfl trivial ?_ rfl
    simp only [Tryd.ntmps20, List.size_toArray, List.length_cons, List.length_nil, Nat.reduceAdd, Nat.reduceSub, Array.replicate_succ, Array.replicate_zero, List.push_toArray, List.append_toArray, List.nil_append, List.cons_append]
    gi_wp2
    refine ⟨by simp [Fence.wide], RoundIn.mono ⟨HR.out.1, fun c cs _ => HR.out.2 c cs (room_wide _)⟩ ?_⟩
    rintro e W1 ⟨rfl, hJ1⟩
    have HJ1 := hid hJ1
    have hb1 := HB.out _ _ hJ1
    have c4 : W1.cell? ⟨b, 4, none⟩ = some (.slice av kids.length c) := by simp [World.cell?, hb1]
    clear hJ1 hb1
    gi_wp2
    gi_loopw [20] (fun iv wr => ∃ i : Nat, i ≤ kids.length ∧ iv = .int .i64 i ∧ Hid (J (j + 1 + tszs (kids.take i)) wr))
      (fun iv _ => kids.length - (intOf iv).toNat)
    case atStart => exact ⟨0, Nat.zero_le _, rfl, by simpa [tszs] using HJ1⟩
    case round =>
      obtain ⟨i, hi, rfl, HJi⟩ := hrel
      have hkl := HO.out.2.1
      by_cases hlt : i < kids.length
      · have hlt2 : (i : Int) < (kids.length : Int) := by omega
        have hks : IntKind.i64.wrap ((i : Int) + 1) = (i : Int) + 1 := by rw [IntKind.wrap_i64]; omega
        have hq : kids[i]? = some kids[i] := List.getElem?_eq_getElem hlt
        obtain ⟨g, v, rfl, hgL, hcv, hpt⟩ := PTBs.at HKS.out hq
        rw [Nat.zero_add] at hcv
        have hcv2 := ((HJB.out _ _ HJi.out).cell (p := ⟨g, i, none⟩) hgL).trans hcv
        have hbW := HB.out _ _ HJi.out
        have c0 : wr.cell? ⟨b, 0, none⟩ = some (.int .i64 (k : Int)) := by simp [World.cell?, hbW]
        have c1 : wr.cell? ⟨b, 1, none⟩ = some (.string (bs nm)) := by simp [World.cell?, hbW]
        have HSz : Hid (tsz kids[i] ≤ N) := by have := kid_lt kids i _ hq; have := HN.out; unfold Hid; omega
        have HOk : Hid (TOk kids[i]) := TOks.at HO.out.2.2 hq
        have HPT := hid hpt
        have HTS := hid (tszs_step kids i _ hq)
        clear hbW hcv hpt hkl c4 hgL
        obtain ⟨vb, rfl⟩ := PTB.formB HPT.out
        have HM : Hid (∀ (a2 : Option Addr) (W2 : World), J (j + 1 + tszs (kids.take i)) W2 → ∀ m', CallsIn Fence.wide m' Tryd.prog 20 #[.pointer (some ⟨vb, 0, none⟩), .pointer a2, .func (.yield l) #[] #[]] W2 (fun e W3 => e = .returned (.bool true) ∧ J (j + 1 + tszs (kids.take (i + 1))) W3)) := fun a2 W2 h2 m' => by
          refine (HIH.out _ _ a2 W2 m' _ HSz.out h2 HPT.out HOk.out).mono ?_
          rintro e W3 ⟨h3, h4⟩
          refine ⟨h3, ?_⟩
          rw [HTS.out, ← Nat.add_assoc]
          exact h4
        by_cases h91 : k = 9 ∧ i = 1
        · obtain ⟨rfl, rfl⟩ := h91
          clear hks hlt2
          have hlt2 : (1 : Int) < (kids.length : Int) := by omega
          gi_wp2
          refine ⟨trivial, by simp [Fence.wide], callsIn_wide.2 ((with_any (bs nm) 0 a wr).mono ?_)⟩
          rintro e w5 ⟨rfl, rfl⟩
          have HM2 := hid (HM.out (some ⟨wr.heap.size, 0, none⟩) _ (HJA.out _ _ (.cells #[.string (bs nm), .int .i64 0, .pointer a] 103) HJi.out))
          clear HM
          generalize wr.alloc (.cells #[.string (bs nm), .int .i64 0, .pointer a] 103) = w5 at *
          gi_wp2
          refine ⟨trivial, by simp [Fence.wide], (HM2.out _).mono ?_⟩
          rintro e W3 ⟨rfl, hJ3⟩
          have HJ3 := hid hJ3
          clear hJ3
          gi_wp2
          go_roundw
          case rel => exact ⟨2, by omega, rfl, HJ3⟩
          case measure => simp [intOf]; omega
        · have HM2 := hid (HM.out a wr HJi.out)
          clear HM
          by_cases h9 : k = 9
          · have q9 : ((k : Int) == 9) = true := by rw [h9]; rfl
            have q1 : ((i : Int) == 1) = false := by simp; omega
            clear h9 h91
            gi_wp2
            refine ⟨trivial, by simp [Fence.wide], (HM2.out _).mono ?_⟩
            rintro e W3 ⟨rfl, hJ3⟩
            have HJ3 := hid hJ3
            clear hJ3
            gi_wp2
            go_roundw
            case rel => exact ⟨i + 1, by omega, by go_num, HJ3⟩
            case measure => simp [intOf]; omega
          · have q9 : ((k : Int) == 9) = false := by simp; omega
            clear h9 h91
            gi_wp2
            refine ⟨trivial, by simp [Fence.wide], (HM2.out _).mono ?_⟩
            rintro e W3 ⟨rfl, hJ3⟩
            have HJ3 := hid hJ3
            clear hJ3
            gi_wp2
            go_roundw
            case rel => exact ⟨i + 1, by omega, by go_num, HJ3⟩
            case measure => simp [intOf]; omega
      · obtain rfl : i = kids.length := by omega
        rw [List.take_length] at HJi
        have HE : Hid (J (j + (1 + tszs kids)) wr) := by unfold Hid; rw [← Nat.add_assoc]; exact HJi.out
        gi_wp2
        go_ret
        exact ⟨rfl, HE.out⟩

set_option maxRecDepth 100000 in
set_option maxHeartbeats 2000000 in
theorem all1J (l bx ba L0 : Nat) (W0 : World) (J : Nat → World → Prop) (hJb : ∀ j W, J j W → Below L0 W0 W) (hJa : ∀ j W o, J j W → J j (W.alloc o))
    (hY : ∀ (j : Nat) (W : World) (b : Nat) (a : Option Addr), J j W → YieldAt Fence.wide 0 Tryd.prog l #[.pointer (some ⟨b, 0, none⟩), .pointer a] W (fun e W' => e = .returned (.bool true) ∧ J (j + 1) W'))
    (t : Tr) (x a : Option Addr) (W : World) (m j : Nat) (hx : W.cell? ⟨bx, 0, none⟩ = some (.pointer x)) (ha : W.cell? ⟨ba, 0, none⟩ = some (.pointer a)) (hJ : J j W) (hP : PTB (fun b => b < L0) W0 t (.pointer x)) (hO : TOk t) :
    CallsIn Fence.wide m Tryd.prog 19 #[.func (.yield l) #[] #[], .pointer (some ⟨bx, 0, none⟩), .pointer (some ⟨ba, 0, none⟩)] W (fun e W' => (∃ v, e = .returned v) ∧ J (j + tsz t) W') := by
  have HW := hid (fun m => walkJ l L0 W0 J hJb hJa hY (tsz t) t (.pointer x) a W m j (Nat.le_refl _) hJ hP hO)
  clear hP hO hY hJ hJa hJb
  refine callsIn_of_wp Tryd.func19 rfl trivial ?_ rfl
  simp only [Tryd.ntmps19, List.size_toArray, List.length_cons, List.length_nil, Nat.reduceAdd, Nat.reduceSub, Array.replicate_succ, Array.replicate_zero, List.push_toArray, List.append_toArray, List.nil_append, List.cons_append]
  gi_wp2
  refine ⟨trivial, by simp [Fence.wide], (HW.out _).mono ?_⟩
  rintro e W1 ⟨rfl, hJ1⟩
  have HJ1 := hid hJ1
  clear hJ1
  gi_wp2
  go_end0
  exact ⟨⟨_, rfl⟩, HJ1.out⟩

/-- a loop, in the frames of one function alone -/
theorem wpB_loop {f : Nat} {P : Program} {c : Code} {Q : Exit → Act → World → Prop} {a : Act} {w : World} (I : Act → World → Prop) (μ : Act → World → Nat) (h₀ : I a w)
    (round : ∀ a w, I a w → wpB f P c (Exit.then (fun a' w' => I a' w' ∧ μ a' w' < μ a w) Q) a w) : wpB f P (Code.loop c) Q a w := by
  intro b k cs hro hb
  have key : ∀ j a w, μ a w = j → I a w →
      ∃ e a' w', Q e a' w' ∧ ArrivesIn (Machine.fenced P Fence.wide) P (lone (b.atR a (.code c :: .inLoop c :: k)) cs w) b k cs e a' w' := by
    intro j
    induction j using Nat.strongRecOn with
    | _ j ih =>
      intro a w hn hI
      obtain ⟨e, a₁, w₁, hq, harr⟩ := round a w hI b (.inLoop c :: k) cs hro hb
      cases e with
      | normal =>
        obtain ⟨hI₁, hlt⟩ := hq
        obtain ⟨e₂, a₂, w₂, hq₂, harr₂⟩ := ih (μ a₁ w₁) (hn ▸ hlt) a₁ w₁ rfl hI₁
        exact ⟨e₂, a₂, w₂, hq₂, .of_steps (StepsIn.trans harr (.one (fenced_wide _ _) stepR_inLoop)) harr₂⟩
      | exit id => exact ⟨_, a₁, w₁, hq, .pass (x := .inLoop c) rfl (fun _ _ => .inl (by simp)) harr⟩
      | goto l => exact ⟨_, a₁, w₁, hq, .pass (x := .inLoop c) rfl (fun _ _ => .inl (by simp)) harr⟩
      | ret => exact ⟨_, a₁, w₁, hq, .pass (x := .inLoop c) rfl (fun _ _ => .inl (by simp)) harr⟩
      | panic ch => exact ⟨_, a₁, w₁, hq, .pass (x := .inLoop c) rfl (fun _ _ => .inl (by simp)) harr⟩
      | outgrown => exact ⟨_, a₁, w₁, hq, .pass (x := .inLoop c) rfl (fun _ _ => .inl (by simp)) harr⟩
  obtain ⟨e, a', w', hq, harr⟩ := key _ a w rfl h₀
  exact ⟨e, a', w', hq, .of_steps (.one (fenced_wide _ _) stepR_loop) harr⟩
theorem wpB_seqB {f : Nat} {P : Program} {x y : Code} {Q : Exit → Act → World → Prop} {a : Act} {w : World} (h : wpB f P x (Exit.then (wpB f P y Q) Q) a w) : wpB f P (Code.seq x y) Q a w := by
  intro b k cs hro hb
  have h0 : (lone (b.atR a (.code (.seq x y) :: k)) cs w).fenced P Fence.wide := fenced_wide _ _
  obtain ⟨e, a₁, w₁, hq, harr⟩ := h b (.code y :: k) cs hro hb
  cases e with
  | normal =>
    obtain ⟨e₂, a₂, w₂, hq₂, harr₂⟩ := hq b k cs hro hb
    exact ⟨e₂, a₂, w₂, hq₂, .of_steps (.head h0 stepR_seq harr) harr₂⟩
  | exit id => exact ⟨_, a₁, w₁, hq, .of_steps (.one h0 stepR_seq) (.pass (x := .code y) rfl (fun _ _ => .inl (by simp)) harr)⟩
  | goto l => exact ⟨_, a₁, w₁, hq, .of_steps (.one h0 stepR_seq) (.pass (x := .code y) rfl (fun _ _ => .inl (by simp)) harr)⟩
  | ret => exact ⟨_, a₁, w₁, hq, .of_steps (.one h0 stepR_seq) (.pass (x := .code y) rfl (fun _ _ => .inl (by simp)) harr)⟩
  | panic ch => exact ⟨_, a₁, w₁, hq, .of_steps (.one h0 stepR_seq) (.pass (x := .code y) rfl (fun _ _ => .inl (by simp)) harr)⟩
  | outgrown => exact ⟨_, a₁, w₁, hq, .of_steps (.one h0 stepR_seq) (.pass (x := .code y) rfl (fun _ _ => .inl (by simp)) harr)⟩
/-- a block that its own exit leaves, or that ends by itself -/
def blkQ (id : Nat) (Q : Exit → Act → World → Prop) : Exit → Act → World → Prop
  | .normal, a, w => Q .normal a w
  | .exit i, a, w => i = id ∧ Q .normal a w
  | _, _, _ => False
theorem wpB_blockX {f id : Nat} {P : Program} {c : Code} {Q : Exit → Act → World → Prop} {a : Act} {w : World} (h : wpB f P c (blkQ id Q) a w) : wpB f P (Code.block id c) Q a w := by
  intro b k cs hro hb
  have h0 : (lone (b.atR a (.code (.block id c) :: k)) cs w).fenced P Fence.wide := fenced_wide _ _
  obtain ⟨e, a₁, w₁, hq, harr⟩ := h b (.inBlock id :: k) cs hro hb
  cases e with
  | normal => exact ⟨.normal, a₁, w₁, hq, .head h0 stepR_block (StepsIn.trans harr (.one (fenced_wide _ _) stepR_inBlock))⟩
  | exit i =>
    obtain ⟨rfl, hq⟩ := hq
    exact ⟨.normal, a₁, w₁, hq, .head h0 stepR_block (harr.1 k (by simp [exitTo]))⟩
  | panic ch => exact hq.elim
  | goto l => exact hq.elim
  | ret => exact hq.elim
  | outgrown => exact hq.elim

end Go.Proofs.YthpkcageimhgaaaDoor
