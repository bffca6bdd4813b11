/- Package source: all parts of an expression, gone through. -/
import Derived.Test.YthpkcageimhgaaaDoorSqAK
namespace Go.Proofs.YthpkcageimhgaaaDoor
open Go.RowKit Go.Shelf

attribute [local go_sem] Oper.semAt_some

mutual
def tsz : Tr → Nat
  | .node _ _ _ _ kids => 1 + tszs kids
def tszs : List Tr → Nat
  | [] => 0
  | t :: r => tsz t + tszs r
end
theorem kid_lt : ∀ (kids : List Tr) (i : Nat) (t : Tr), kids[i]? = some t → tsz t ≤ tszs kids
  | [], i, t, h => by simp at h
  | x :: r, 0, t, h => by simp at h; subst h; rw [tszs]; omega
  | x :: r, i + 1, t, h => by
    have := kid_lt r i t (by simpa using h)
    rw [tszs]; omega
mutual
/-- the first fault of names of an expression, where some names stand for something: which, and where -/
def lk (sig : List UInt8 → Nat → Bool) : Tr → List (List UInt8) → Option (Nat × Nat)
  | .node k nm at' _ kids, known => if onf sig k nm kids.length known ≠ 0 then some (onf sig k nm kids.length known, at') else lks sig k nm known kids 0
def lks (sig : List UInt8 → Nat → Bool) (k : Nat) (nm : List UInt8) (known : List (List UInt8)) : List Tr → Nat → Option (Nat × Nat)
  | [], _ => none
  | t :: r, i => match lk sig t (if k = 9 ∧ i = 1 then nm :: known else known) with
    | some e => some e
    | none => lks sig k nm known r (i + 1)
end
mutual
/-- names and parts that are few enough -/
def TOk : Tr → Prop
  | .node _ nm _ _ kids => nm.length ≤ 4000 ∧ kids.length ≤ 4000 ∧ TOks kids
def TOks : List Tr → Prop
  | [] => True
  | t :: r => TOk t ∧ TOks r
end
theorem TOks.at : ∀ {kids : List Tr} {i : Nat} {t : Tr}, TOks kids → kids[i]? = some t → TOk t
  | [], i, t, _, h => by simp at h
  | x :: r, 0, t, hk, h => by simp at h; subst h; exact hk.1
  | x :: r, i + 1, t, hk, h => TOks.at hk.2 (by simpa using h)
theorem PTBs.at {B : Nat → Prop} {w : World} {a : Option Addr} : ∀ {kids : List Tr} {i j : Nat} {t : Tr}, PTBs B w a kids j → kids[i]? = some t → ∃ g v, a = some ⟨g, 0, none⟩ ∧ B g ∧ w.cell? ⟨g, j + i, none⟩ = some v ∧ PTB B w t v
  | [], i, j, t, _, h => by simp at h
  | x :: r, 0, j, t, hk, h => by simp at h; subst h; exact hk.1
  | x :: r, i + 1, j, t, hk, h => by
    obtain ⟨g, v, h1, h2, h3, h4⟩ := PTBs.at hk.2 (i := i) (t := t) (by simpa using h)
    exact ⟨g, v, h1, h2, by rw [show j + (i + 1) = j + 1 + i by omega]; exact h3, h4⟩
/-- how going through an expression ends -/
def LkP (l : Nat) (W : World) (r : Option (Nat × Nat)) (e : Ending) (W' : World) : Prop := match r with
  | none => e = .returned (.bool true) ∧ Below W.heap.size W W'
  | some x => e = pncF x.2 x.1 ∧ Fr l W W'

set_option maxRecDepth 100000 in
set_option maxHeartbeats 2000000 in
theorem walkX (sig : List UInt8 → Nat → Bool) (l : Nat) (Ctx : World → Prop) (hCtx : ∀ W W', Ctx W → Below W.heap.size W W' → Ctx W' ∧ l < W.heap.size)
    (hY : ∀ (W : World) (b k at' n nk c : Nat) (nm : List UInt8) (av a : Option Addr) (sc : List (List UInt8 × Int)), Ctx W → W.heap[b]? = some (.cells #[.int .i64 (k : Int), .string (bs nm), .int .i64 (at' : Int), .int .i64 (n : Int), .slice av nk c] 84 (0, 0)) → ScP W (.pointer a) sc → sgo (nm, nk) →
      YieldAt Fence.wide 0 Tryd.prog l #[.pointer (some ⟨b, 0, none⟩), .pointer a] W (LkP l W (if onf sig k nm nk (sc.map (·.1)) ≠ 0 then some (onf sig k nm nk (sc.map (·.1)), at') else none))) :
    ∀ (N : Nat) (t : Tr) (v : Value) (a : Option Addr) (sc : List (List UInt8 × Int)) (W : World) (m : Nat), tsz t ≤ N → Ctx W → PT 0 W t v → ScP W (.pointer a) sc → TOk t →
      CallsIn Fence.wide m Tryd.prog 20 #[v, .pointer a, .func (.yield l) #[] #[]] W (LkP l W (lk sig t (sc.map (·.1))))
  | 0, .node k nm at' n kids, v, a, sc, W, m, hN, _, _, _, _ => by rw [tsz] at hN; omega
  | N + 1, .node k nm at' n kids, v, a, sc, W, m, hN, hC, hP, hS, hO => by
    have ih := walkX sig l Ctx hCtx hY N
    have hnot : ∀ (x : Bool) (w : World), (Op.unary .not (.bool x)).run Tryd.prog w = .ok (.bool (!x)) w := fun _ _ => rfl
    obtain ⟨b, av, c, rfl, _, hb, hks⟩ := hP
    rw [tsz] at hN
    have HIH := hid ih
    have HCT := hid hCtx
    have HKS := hid hks
    have HS := hid hS
    have HB := hid hb
    have HC := hid hC
    have HO : Hid (nm.length ≤ 4000 ∧ kids.length ≤ 4000 ∧ TOks kids) := hO
    have HN := hid hN
    have hy := hY W b k at' n kids.length c nm av a sc hC hb hS ⟨HO.out.1, HO.out.2.1⟩
    obtain ⟨fn, tmps, assign, body, hyr, hR⟩ := hy
    have HR := hid hR
    rw [lk]
    clear hR ih hCtx hks hS hb hC hO hN
    by_cases ho : onf sig k nm kids.length (sc.map (·.1)) = 0
    · rw [if_neg (by simp [ho])]
      rw [if_neg (by simp [ho])] at HR
      have HL : ∃ res, Hid (res = lks sig k nm (sc.map (·.1)) kids 0) := ⟨_, rfl⟩
      obtain ⟨res, HL⟩ := HL
      rw [← HL.out]
      refine callsIn_of_wp Tryd.func20 rfl trivial ?_ rfl
      simp only [Tryd.ntmps20, List.size_toArray, List.length_cons, List.length_nil, Nat.reduceAdd, Nat.reduceSub, Array.replicate_succ, Array.replicate_zero, List.push_toArray, List.append_toArray, List.nil_append, List.cons_append]
      gi_wp2
      refine ⟨by simp [Fence.wide], RoundIn.mono ⟨HR.out.1, fun c cs _ => HR.out.2 c cs (room_wide _)⟩ ?_⟩
      rintro e W1 ⟨rfl, hB1⟩
      have HB1 := hid hB1
      have hb1 := (hB1.block _ (Array.getElem?_eq_some_iff.1 HB.out).1).trans HB.out
      have c4 : W1.cell? ⟨b, 4, none⟩ = some (.slice av kids.length c) := by simp [World.cell?, hb1]
      clear hB1 hb1
      gi_wp2
      gi_loopw [20] (fun iv wr => ∃ i : Nat, i ≤ kids.length ∧ iv = .int .i64 i ∧ Hid (res = lks sig k nm (sc.map (·.1)) (kids.drop i) i) ∧ Hid (Below W.heap.size W wr))
        (fun iv _ => kids.length - (intOf iv).toNat)
      case atStart => exact ⟨0, Nat.zero_le _, rfl, HL, HB1⟩
      case round =>
        obtain ⟨i, hi, rfl, hres, hbel⟩ := hrel
        have hkl := HO.out.2.1
        by_cases hlt : i < kids.length
        · have hlt2 : (i : Int) < (kids.length : Int) := by omega
          have hks : IntKind.i64.wrap ((i : Int) + 1) = (i : Int) + 1 := by rw [IntKind.wrap_i64]; omega
          have hq : kids[i]? = some kids[i] := List.getElem?_eq_getElem hlt
          obtain ⟨g, v, rfl, _, hcv, hpt⟩ := PTBs.at HKS.out hq
          rw [Nat.zero_add] at hcv
          have hcv2 := (hbel.out.cell (p := ⟨g, i, none⟩) (cell_lt hcv)).trans hcv
          have hbW := (hbel.out.block _ (Array.getElem?_eq_some_iff.1 HB.out).1).trans HB.out
          have c0 : wr.cell? ⟨b, 0, none⟩ = some (.int .i64 (k : Int)) := by simp [World.cell?, hbW]
          have c1 : wr.cell? ⟨b, 1, none⟩ = some (.string (bs nm)) := by simp [World.cell?, hbW]
          have HPT := hid (PT.below hpt hbel.out)
          have HSz : Hid (tsz kids[i] ≤ N) := by have := kid_lt kids i _ hq; have := HN.out; unfold Hid; omega
          have HOk : Hid (TOk kids[i]) := TOks.at HO.out.2.2 hq
          have hstep := hres.out
          rw [List.drop_eq_getElem_cons hlt, lks] at hstep
          have HST := hid hstep
          clear hstep hres hbW hcv hpt hkl c4
          obtain ⟨vb, rfl⟩ := PT.form HPT.out
          have Hmain : ∀ (sc2 : List (List UInt8 × Int)) (a2 : Option Addr) (W2 : World), Hid (sc2.map (·.1) = if k = 9 ∧ i = 1 then nm :: sc.map (·.1) else sc.map (·.1)) → Below W.heap.size W W2 → Below wr.heap.size wr W2 → ScP W2 (.pointer a2) sc2 →
              ∀ m', CallsIn Fence.wide m' Tryd.prog 20 #[.pointer (some ⟨vb, 0, none⟩), .pointer a2, .func (.yield l) #[] #[]] W2 (fun e W3 =>
                (e = .returned (.bool true) ∧ Hid (res = lks sig k nm (sc.map (·.1)) (kids.drop (i + 1)) (i + 1)) ∧ Hid (Below W.heap.size W W3)) ∨ (∃ x, Hid (res = some x) ∧ e = pncF x.2 x.1 ∧ Fr l W W3)) := by
            intro sc2 a2 W2 hk2 hb2 hb3 hs2 m'
            have hc2 : Ctx W2 := (HCT.out W W2 HC.out hb2).1
            refine (HIH.out _ _ a2 sc2 W2 m' HSz.out hc2 (PT.below HPT.out hb3) hs2 HOk.out).mono ?_
            intro e W3 he
            have hst := HST.out
            rw [← hk2.out] at hst
            cases hlk : lk sig kids[i] (sc2.map (·.1)) with
            | none =>
              rw [hlk] at he hst
              obtain ⟨rfl, hb4⟩ := he
              exact .inl ⟨rfl, hst, hb2.trans (hb4.mono hb2.size)⟩
            | some x =>
              rw [hlk] at he hst
              obtain ⟨rfl, hf⟩ := he
              exact .inr ⟨x, hst, rfl, (Fr.below hb2 (Nat.le_of_lt (HCT.out W W HC.out (Below.refl _ _)).2)).trans hf⟩
          have HM := hid Hmain
          clear Hmain
          by_cases h91 : k = 9 ∧ i = 1
          · obtain ⟨rfl, rfl⟩ := h91
            rw [if_pos ⟨rfl, rfl⟩] at HM
            clear hks hlt2
            have hlt2 : (1 : Int) < (kids.length : Int) := by omega
            gi_wp2
            refine ⟨trivial, by simp [Fence.wide], callsIn_wide.2 ((with_any (bs nm) 0 a wr).mono ?_)⟩
            rintro e w5 ⟨rfl, rfl⟩
            have hbA : Below wr.heap.size wr (wr.alloc (.cells #[.string (bs nm), .int .i64 0, .pointer a] 103)) := (Below.refl _ _).alloc (Nat.le_refl _) _
            have HM2 := hid (HM.out ((nm, 0) :: sc) (some ⟨wr.heap.size, 0, none⟩) _ rfl (hbel.out.trans (hbA.mono hbel.out.size)) hbA (ScP.with (HS.out.below hbel.out) nm 0))
            clear HM hbA
            generalize wr.alloc (.cells #[.string (bs nm), .int .i64 0, .pointer a] 103) = w5 at *
            gi_wp2
            refine ⟨trivial, by simp [Fence.wide], (HM2.out _).mono ?_⟩
            rintro e W3 (⟨rfl, hr3, hb3⟩ | ⟨x, hx, rfl, hf⟩)
            · gi_wp2
              go_roundw
              case rel => exact ⟨2, by omega, rfl, hr3, hb3⟩
              case measure => simp [intOf]; omega
            · refine ⟨rfl, ?_⟩
              rw [hx.out]
              exact ⟨rfl, hf⟩
          · rw [if_neg h91] at HM
            have HM2 := hid (HM.out sc a wr rfl hbel.out (Below.refl _ _) (HS.out.below hbel.out))
            clear HM
            by_cases h9 : k = 9
            · have q9 : ((k : Int) == 9) = true := by rw [h9]; rfl
              have q1 : ((i : Int) == 1) = false := by simp; omega
              clear h9 h91
              gi_wp2
              refine ⟨trivial, by simp [Fence.wide], (HM2.out _).mono ?_⟩
              rintro e W3 (⟨rfl, hr3, hb3⟩ | ⟨x, hx, rfl, hf⟩)
              · gi_wp2
                go_roundw
                case rel => exact ⟨i + 1, by omega, by go_num, hr3, hb3⟩
                case measure => simp [intOf]; omega
              · refine ⟨rfl, ?_⟩
                rw [hx.out]
                exact ⟨rfl, hf⟩
            · have q9 : ((k : Int) == 9) = false := by simp; omega
              clear h9 h91
              gi_wp2
              refine ⟨trivial, by simp [Fence.wide], (HM2.out _).mono ?_⟩
              rintro e W3 (⟨rfl, hr3, hb3⟩ | ⟨x, hx, rfl, hf⟩)
              · gi_wp2
                go_roundw
                case rel => exact ⟨i + 1, by omega, by go_num, hr3, hb3⟩
                case measure => simp [intOf]; omega
              · refine ⟨rfl, ?_⟩
                rw [hx.out]
                exact ⟨rfl, hf⟩
        · obtain rfl : i = kids.length := by omega
          have h0 := hres.out
          rw [List.drop_length, lks] at h0
          subst h0
          gi_wp2
          go_ret
          exact ⟨rfl, hbel.out⟩
    · rw [if_pos ho]
      rw [if_pos ho] at HR
      refine callsIn_of_wp Tryd.func20 rfl trivial ?_ rfl
      simp only [Tryd.ntmps20, List.size_toArray, List.length_cons, List.length_nil, Nat.reduceAdd, Nat.reduceSub, Array.replicate_succ, Array.replicate_zero, List.push_toArray, List.append_toArray, List.nil_append, List.cons_append]
      gi_wp2
      refine ⟨by simp [Fence.wide], RoundIn.mono ⟨HR.out.1, fun c cs _ => HR.out.2 c cs (room_wide _)⟩ ?_⟩
      rintro e W1 ⟨rfl, hB1⟩
      exact ⟨rfl, rfl, hB1⟩

end Go.Proofs.YthpkcageimhgaaaDoor
