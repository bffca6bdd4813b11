/- What package chain must answer; attestlaw3.done, of that. Package chain: what it needs of slices, become, New. -/
import Derived.Test.YtpgnabmkfkcogaaGreatDoorGmAN
import Derived.Test.YtpgnabmkfkcogaaGreatDoorPls
import Derived.Test.YtpgnabmkfkcogaaGreatDoorDoms
import Derived.Test.YtpgnabmkfkcogaaGreatDoorTres
import Derived.Test.YtpgnabmkfkcogaaGreatDoorSpgs
import Derived.Test.YtpgnabmkfkcogaaGreatDoorFld
import Derived.Lib.AppendZerosOnto
import Derived.Laws.CopyRow
import Derived.Deep.RegionHeld3
namespace Go.Proofs.YtpgnabmkfkcogaaGreatDoor
open Go.RowKit

/-- the digest behind so many numbers drawn -/
def drw (q n : Nat) : Nat → List Int → List Int
  | 0, D => D
  | k + 1, D => digl q n (4 :: drw q n k D)
/-- the numbers drawn -/
def drs (q n k : Nat) (D : List Int) : List Int := ls (fun i => zat (drw q n (i + 1) D) 0) k
/-- a digest -/
def Dig (D : List Int) : Prop := D.length = 4 ∧ Fits D
theorem dig_digl {q : Nat} (h3 : 3 ≤ q) (h4 : q ≤ 2147483647) (n : Nat) (l : List Int) : Dig (digl q n l) := ⟨digl_len _ _ _, digl_fits h3 h4 _ _⟩
theorem dig_drw {q : Nat} (h3 : 3 ≤ q) (h4 : q ≤ 2147483647) (n : Nat) {D : List Int} (h : Dig D) : ∀ k, Dig (drw q n k D)
  | 0 => h
  | _ + 1 => dig_digl h3 h4 _ _

theorem NumL.other {w w' : World} {a : Option Addr} {c s : Nat} {l : List Int} (h : NumL w a c l) (e : w.grownBy w' (some s)) (hs : ∀ (cs : Array Value) (f : Nat × Nat), w.heap[s]? ≠ some (.cells cs 3 f)) : NumL w' a c l :=
  h.blocks e.size (fun g cs f hg => gb_blk e (Array.getElem?_eq_some_iff.1 hg).1 (fun he => hs cs f (by rw [← he]; exact hg)))
theorem numL_of_owns {w : World} {base : Nat} {v : Value} {zs : List Int} (h : w.ownsRow base 3 1 v zs.length (zs.map (Value.int .i64))) : ∃ a cap, v = .slice a zs.length cap ∧ NumL w a cap zs := by
  obtain ⟨a, cap, rfl, hl⟩ := lst_of_owns h
  refine ⟨a, cap, rfl, hl, fun h0 => ?_⟩
  rcases h.2 with ⟨_, h3⟩ | ⟨g, cap', cur, e, hg, hb, _⟩
  · omega
  · injection e with e1
    exact ⟨g, 0, cur, _, e1, hb⟩
end Go.Proofs.YtpgnabmkfkcogaaGreatDoor

namespace Go.Proofs.YtpgnabmkfkcogaaGreatDoor
open Go.RowKit

theorem catf_snoc {rows : List (List Int)} {k : Nat} (h : k < rows.length) : (rows.take (k + 1)).flatten = (rows.take k).flatten ++ rat rows k := by
  have e : rows.take (k + 1) = rows.take k ++ [rat rows k] := by
    rw [List.take_add_one, List.getElem?_eq_getElem h]
    unfold rat
    rw [List.getD_eq_getElem?_getD, List.getElem?_eq_getElem h]
    rfl
  rw [e, List.flatten_append]
  simp
theorem catf_le {rows : List (List Int)} (k : Nat) : (rows.take k).flatten.length ≤ rows.flatten.length := by
  have := congrArg (fun l => (List.flatten l).length) (List.take_append_drop k rows)
  simp only [List.flatten_append, List.length_append] at this
  omega
theorem hidC {α β : Type} {A B : α → β → Prop} {C : α → β → Prop} (h : ∀ x y, Hid (A x y) → B x y → C x y) : ∀ x y, A x y → B x y → C x y := fun x y a b => h x y a b

/-- append by what it comes to -/
theorem wpList_append_run {ops : Array Oper} {rest : List Oper} {o : Oper} {a : Act} {w w2 : World} {Q : Exit → Act → World → Prop} (hgd : o.guard = none) (s x : Operand) (tS tX : TypeId)
    (ho : o.op = .call { callee := .builtin .append, args := #[s, x], argTypes := #[tS, tX] }) (v u r : Value) (hs : a.eval s = v) (hx : a.eval x = u) (hrun : ∀ ty, (Builtin.append_ #[tS, tX] ty #[v, u]).run Tryz.prog w = .ok r w2)
    (h : wpList Tryz.prog ops Q rest (a.put o.dst r) w2) : wpList Tryz.prog ops Q (o :: rest) a w := by
  refine wpList_plain hgd fun K hK => ?_
  unfold Oper.wp
  simp [execOp, ho, resolve, invoke, builtin, hs, hx, hrun, Result.andThen]
  exact hK _ _ h

set_option maxRecDepth 100000 in
set_option maxHeartbeats 1000000 in
theorem grow_nil (k : Nat) (w : World) (h1 : 1 ≤ k) (h2 : k ≤ 17592186044416) :
    Calls Tryz.prog 194 #[.slice none 0 0, .int .i64 (k : Int)] w fun e w' => ∃ v, e = .returned v ∧ w'.ownsRow w.heap.size 3 1 v 0 [] ∧ Below w.heap.size w w' := by
  obtain ⟨i0, hi, hz0, hz1, hz2⟩ := info_parts Tryz.infoInt
  have hold : (Builtin.firstCells i0.size 0 (.slice none 0 0)).run Tryz.prog w.drew = .ok ([] : List Value).toArray w.drew := run_firstCells_none w.drew i0.size 0 0 0
  have HR : ∃ G W1, Hid (∀ ty, (Builtin.append_ #[23, 3] ty #[.slice none 0 0, .int .i64 (k : Int)]).run Tryz.prog w = .ok (.slice (some ⟨w.heap.size, 0, none⟩) k G) W1) ∧ k ≤ G ∧ G ≤ 9223372036854775807 ∧ Hid (W1.ownsRow w.heap.size 3 1 (.slice (some ⟨w.heap.size, 0, none⟩) 0 G) 0 [] ∧ Below w.heap.size w W1) := by
    have hG := grownCap_ge w (0 + k) 0 3
    have hGm := grownCap_le_maxLen w (0 + k) 0 3 (by unfold maxLen; omega)
    have h := fun ty => Lib.run_append_grow_zeros w 23 3 ty 3 i0 (.int .i64 0) .i64 .i64 Tryz.underlying23 (by kernel_rfl) hi hz0 none 0 0 [] hold k (by omega) (by omega) (by omega) (by omega) (by rw [hz2]; omega) (growslice_fits (by omega) (by rw [hz2]; omega))
    rw [Nat.zero_add] at h hG hGm
    generalize grownCap w k 0 3 = G at *
    refine ⟨G, _, h, hG, by unfold maxLen at hGm; exact hGm, ?_, ?_⟩
    · refine World.ownsRow_made (size := 1) w.drew _ _ (Nat.le_refl _) hGm ?_
      have hzc : (Value.int .i64 0).cells.size = 1 := rfl
      simp only [Array.size_append, size_zeroCells, hzc]
      simp
      omega
    · exact (Below.refl _ _).drew.alloc (Nat.le_refl _) _
  obtain ⟨G, W1, HRZ, hG1, hG2, HE⟩ := HR
  have t1 : ¬ (k : Int) < 0 := by omega
  have t2 : (k : Int) > 0 := by omega
  have hw0 : IntKind.i64.wrap (k : Int) = (k : Int) := by rw [IntKind.wrap_i64]; omega
  clear hold hi hz0 hz1 hz2
  go_enter Tryz.func194, Tryz.ntmps194
  go_wp2_with (at_builtin; refine wpList_append_run rfl _ _ 23 3 rfl _ _ _ rfl rfl HRZ.out ?_)
  go_ret
  exact ⟨_, rfl, HE.out⟩

set_option maxRecDepth 100000 in
set_option maxHeartbeats 1000000 in
theorem concat_any (cap : Nat) (a : Option Addr) (rows : List (List Int)) (w : World) (h1 : 1 ≤ rows.flatten.length) (hlen : rows.flatten.length ≤ 17592186044300) (hrl : rows.length ≤ 17592186044300) (hl : LstR w.heap.size w a cap rows) :
    Calls Tryz.prog 117 #[.slice a rows.length cap] w fun e w' => ∃ v, e = .returned v ∧ w'.ownsRow w.heap.size 3 1 v rows.flatten.length (rows.flatten.map (Value.int .i64)) ∧ Below w.heap.size w w' := by
  have HL := hid hl
  have HFL := hid hlen
  have HF1 := hid h1
  clear hl hlen h1
  obtain ⟨m, hm⟩ : ∃ m, m = rows.length := ⟨_, rfl⟩
  rw [← hm] at hrl ⊢
  have HM := hid hm
  clear hm
  obtain ⟨S, hS⟩ : ∃ S : Nat → Nat, S = fun k => (rows.take k).flatten.length := ⟨_, rfl⟩
  have HS := hid hS
  have hSm : Hid (S m = rows.flatten.length) := by unfold Hid; rw [hS, HM.out]; show (rows.take rows.length).flatten.length = _; rw [List.take_length]
  have hS0 : Hid (S 0 = 0) := by unfold Hid; rw [hS]; simp
  have hSs : Hid (∀ k, k < m → S (k + 1) = S k + (rat rows k).length ∧ S (k + 1) ≤ 17592186044300) := fun k hk => by
    have e2 := catf_le (rows := rows) (k + 1)
    have e3 := HFL.out
    rw [hS]
    show (rows.take (k + 1)).flatten.length = (rows.take k).flatten.length + _ ∧ (rows.take (k + 1)).flatten.length ≤ _
    refine ⟨?_, by omega⟩
    rw [catf_snoc (by rw [← HM.out]; exact hk), List.length_append]
  clear hS
  go_enter Tryz.func117, Tryz.ntmps117
  go_wp2_with fail
  go_loop [3, 11] (fun sv iv => ∃ k : Nat, k ≤ m ∧ iv = .int .i64 k ∧ ∃ x : Nat, sv = .int .i64 (x : Int) ∧ Hid (x = S k))
    (fun _ iv => m - (intOf iv).toNat)
  case atStart => exact ⟨0, by omega, rfl, 0, rfl, hS0.out.symm⟩
  case round =>
    obtain ⟨k, hk, rfl, x, rfl, hx⟩ := hrel
    by_cases hlt : k < m
    · have hlt2 : (k : Int) < (m : Int) := by omega
      have hks : IntKind.i64.wrap ((k : Int) + 1) = (k : Int) + 1 := by rw [IntKind.wrap_i64]; omega
      obtain ⟨bl, ol, ak, ck, rfl, hbl', hcl, hlk⟩ := HL.out.row k (by rw [← HM.out]; exact hlt)
      obtain ⟨y, hy⟩ : ∃ y, y = (rat rows k).length := ⟨_, rfl⟩
      have hs := hSs.out k hlt
      have hxe := hx.out
      have hxy : Hid (x + y = S (k + 1)) := by unfold Hid; omega
      have hxy2 : x + y ≤ 17592186044300 := by omega
      rw [← hy] at hcl
      clear hs hy hxe hbl' hlk
      have hw : IntKind.i64.wrap ((x : Int) + (y : Int)) = (x : Int) + (y : Int) := by rw [IntKind.wrap_i64]; omega
      have ht : ¬ (x : Int) + (y : Int) < 0 := by omega
      go_wp2_with fail
      go_round
      case rel => exact ⟨k + 1, by omega, by go_num, x + y, by go_num, hxy⟩
      case measure => simp [intOf]; omega
    · obtain rfl : k = m := by omega
      have hx1 : 1 ≤ x := by have := hx.out; have := hSm.out; have := HF1.out; omega
      have hx2 : x ≤ 17592186044416 := by have := hx.out; have := hSm.out; have := HFL.out; omega
      have HG := hid (grow_nil x w hx1 hx2)
      clear hx hSm hS0 hSs HS hx1 hx2
      go_wp2_with fail
      refine HG.out.mono ?_
      rintro e w1 ⟨v0, rfl, hown0, hb0⟩
      have HO := hid hown0
      have HBA := hid hb0
      clear hown0 hb0 HG
      go_wp2_with fail
      go_loopw [6, 27] (fun v iv wr => ∃ j : Nat, j ≤ k ∧ iv = .int .i64 j ∧ Hid (wr.ownsRow w.heap.size 3 1 v (rows.take j).flatten.length ((rows.take j).flatten.map (Value.int .i64)) ∧ Below w.heap.size w wr))
        (fun _ iv _ => k - (intOf iv).toNat)
      case atStart => exact ⟨0, by omega, rfl, HO.out, HBA.out⟩
      case round =>
        obtain ⟨j, hj, rfl, hC⟩ := hrel
        by_cases hlt : j < k
        · have hlt2 : (j : Int) < (k : Int) := by omega
          have hks : IntKind.i64.wrap ((j : Int) + 1) = (j : Int) + 1 := by rw [IntKind.wrap_i64]; omega
          obtain ⟨bl, ol, ak, ck, rfl, hbl', hcl, hlk⟩ := HL.out.row j (by rw [← HM.out]; exact hlt)
          have hcl2 := (hC.out.2.cell (p := ⟨bl, ol + j, none⟩) hbl').trans hcl
          have HLK := hid (hlk.below hC.out.2)
          have HLE : Hid ((rows.take j).flatten.length + (rat rows j).length ≤ 17592186044416) := by
            have e1 := catf_snoc (rows := rows) (k := j) (by rw [← HM.out]; exact hlt)
            have e2 := catf_le (rows := rows) (j + 1)
            have e3 := HFL.out
            rw [e1, List.length_append] at e2
            unfold Hid
            omega
          have HSN : Hid ((rows.take (j + 1)).flatten = (rows.take j).flatten ++ rat rows j) := catf_snoc (by rw [← HM.out]; exact hlt)
          obtain ⟨Z, hZ⟩ : ∃ Z, Z = (rows.take j).flatten := ⟨_, rfl⟩
          obtain ⟨Y, hY⟩ : ∃ Y, Y = rat rows j := ⟨_, rfl⟩
          rw [← hZ, ← hY] at HSN HLE
          rw [← hZ] at hC
          rw [← hY] at HLK hcl2
          clear hcl hbl' hlk hZ hY
          go_wp2_with (at_builtin; refine wpList_appendL wr w.heap.size w.heap.size rfl _ _ rfl _ rfl _ _ hC.out.1 _ _ rfl HLE.out hC.out.2.size HLK.out ?_; refine hidC ?_)
          intro v' w2 HOW hb2
          have HE : Hid (w2.ownsRow w.heap.size 3 1 v' (rows.take (j + 1)).flatten.length ((rows.take (j + 1)).flatten.map (Value.int .i64)) ∧ Below w.heap.size w w2) := by
            unfold Hid
            rw [HSN.out, List.length_append, List.map_append]
            exact ⟨HOW.out, hC.out.2.trans hb2⟩
          clear HOW hb2
          go_wp2_with fail
          go_roundw
          case rel => exact ⟨j + 1, by omega, by go_num, HE⟩
          case measure => simp [intOf]; omega
        · obtain rfl : j = k := by omega
          have HT : Hid (rows.take j = rows) := by unfold Hid; rw [HM.out, List.take_length]
          have HE := hC
          rw [HT.out] at HE
          clear hC
          go_wp2_with fail
          go_ret
          exact ⟨_, rfl, HE.out⟩

/-- a chain of the program in memory -/
def PCh (N0 q n : Nat) (w : World) (c : Nat) (D : List Int) : Prop := ∃ s b d, SpgOk q n d ∧ SpgAt w s b q n d ∧ s < N0 ∧ b < N0 ∧ N0 ≤ c ∧
  w.heap[c]? = some (.cells #[.pointer (some ⟨s, 0, none⟩), .int .i64 (zat D 0), .int .i64 (zat D 1), .int .i64 (zat D 2), .int .i64 (zat D 3)] 118 (0, 0))
theorem PCh.blocks {N0 q n : Nat} {w w' : World} {c : Nat} {D : List Int} (h : PCh N0 q n w c D) (hc : w'.heap[c]? = w.heap[c]?) (e : ∀ b, b < N0 → w'.heap[b]? = w.heap[b]?) : PCh N0 q n w' c D := by
  obtain ⟨s, b, d, h1, h2, h3, h4, h5, h6⟩ := h
  exact ⟨s, b, d, h1, h2.blocks (e s h3) (e b h4), h3, h4, h5, hc.trans h6⟩
theorem PCh.lt {N0 q n : Nat} {w : World} {c : Nat} {D : List Int} (h : PCh N0 q n w c D) : c < w.heap.size := by
  obtain ⟨s, b, d, _, _, _, _, _, h6⟩ := h
  exact (Array.getElem?_eq_some_iff.1 h6).1
theorem PCh.ge {N0 q n : Nat} {w : World} {c : Nat} {D : List Int} (h : PCh N0 q n w c D) : N0 ≤ c := by
  obtain ⟨s, b, d, _, _, _, _, h5, _⟩ := h
  exact h5
theorem PCh.below {N0 q n : Nat} {w w' : World} {c : Nat} {D : List Int} (h : PCh N0 q n w c D) (e : Below w.heap.size w w') : PCh N0 q n w' c D :=
  h.blocks (e.block c h.lt) (fun b hb => e.block b (by have := h.ge; have := h.lt; omega))
theorem five0 {W : World} {g : Nat} {a b c d x : Value} {t : TypeId} (h : W.heap[g]? = some (.cells #[a, b, c, d, x] t (0, 0))) : W.cell? ⟨g, 0, none⟩ = some a := by simp [World.cell?, h]
theorem five1 {W : World} {g : Nat} {a b c d x : Value} {t : TypeId} (h : W.heap[g]? = some (.cells #[a, b, c, d, x] t (0, 0))) : W.cell? ⟨g, 1, none⟩ = some b := by simp [World.cell?, h]
theorem five2 {W : World} {g : Nat} {a b c d x : Value} {t : TypeId} (h : W.heap[g]? = some (.cells #[a, b, c, d, x] t (0, 0))) : W.cell? ⟨g, 2, none⟩ = some c := by simp [World.cell?, h]
theorem five3 {W : World} {g : Nat} {a b c d x : Value} {t : TypeId} (h : W.heap[g]? = some (.cells #[a, b, c, d, x] t (0, 0))) : W.cell? ⟨g, 3, none⟩ = some d := by simp [World.cell?, h]
theorem five4 {W : World} {g : Nat} {a b c d x : Value} {t : TypeId} (h : W.heap[g]? = some (.cells #[a, b, c, d, x] t (0, 0))) : W.cell? ⟨g, 4, none⟩ = some x := by simp [World.cell?, h]
/-- the digest, as a list in the chain's own block -/
theorem five_lst {W : World} {g : Nat} {a : Value} {D : List Int} {t : TypeId} (hD : D.length = 4) (h : W.heap[g]? = some (.cells #[a, .int .i64 (zat D 0), .int .i64 (zat D 1), .int .i64 (zat D 2), .int .i64 (zat D 3)] t (0, 0))) : Lst W.heap.size W (some ⟨g, 1, none⟩) 4 D := by
  refine ⟨fun k hk => ⟨g, 1, rfl, (Array.getElem?_eq_some_iff.1 h).1, ?_⟩, by omega, fun e => by cases e⟩
  match k, (show k < 4 by omega) with
  | 0, _ => exact five1 h
  | 1, _ => exact five2 h
  | 2, _ => exact five3 h
  | 3, _ => exact five4 h

set_option maxRecDepth 100000 in
set_option maxHeartbeats 4000000 in
theorem become_any (N0 q n c cap : Nat) (a : Option Addr) (rows : List (List Int)) (D : List Int) (w : World) (hP : PCh N0 q n w c D) (h1 : 1 ≤ rows.flatten.length) (hlen : rows.flatten.length ≤ 17592186044300) (hrl : rows.length ≤ 17592186044300) (hfit : Fits rows.flatten) (hl : LstR w.heap.size w a cap rows) :
    Calls Tryz.prog 56 #[.pointer (some ⟨c, 0, none⟩), .slice a rows.length cap] w fun e w' => e = .returned (.tuple #[]) ∧ PCh N0 q n w' c (digl q n rows.flatten) ∧ w.grownBy w' (some c) := by
  have hcl := hP.lt
  obtain ⟨s, b, d, ok, hs, hsN, hbN, hcN, hblk⟩ := hP
  have h3 : 3 ≤ q := by have := ok.h23; omega
  have hm := ok.hm
  obtain ⟨L, hL⟩ : ∃ L, L = rows.flatten := ⟨_, rfl⟩
  rw [← hL] at hfit hlen ⊢
  have HC : Hid (∀ W, Below w.heap.size w W → Calls Tryz.prog 117 #[.slice a rows.length cap] W fun e w' => ∃ v, e = .returned v ∧ Hid (w'.ownsRow W.heap.size 3 1 v L.length (L.map (Value.int .i64))) ∧ Below w.heap.size w w') := fun W h => by
    refine (concat_any cap a rows W h1 (by rw [← hL]; exact hlen) hrl ((hl.below h).mono h.size)).mono ?_
    rintro e w' ⟨v, rfl, h1, h2⟩
    rw [← hL] at h1
    exact ⟨v, rfl, h1, h.trans (h2.mono h.size)⟩
  have HH : Hid (∀ (W : World) (v : Value) (bs : Nat), Hid (W.ownsRow bs 3 1 v L.length (L.map (Value.int .i64))) → Below w.heap.size w W → Calls Tryz.prog 116 #[.pointer (some ⟨s, 0, none⟩), v] W fun e w' => ∃ x : Nat, e = .returned (.slice (some ⟨x, 0, none⟩) 4 4) ∧ Hid (RowB w'.heap.size w' (some ⟨x, 0, none⟩) (digl q n L)) ∧ Below w.heap.size w w') := fun W v bs h0 h => by
    obtain ⟨a2, c2, rfl, hl2⟩ := lst_of_owns h0.out
    refine (shash_any q n d b s L.length c2 a2 (zat L) W ok (hs.below h hs.lt hs.ltb) (by omega) (fun j _ => hfit.all j) (fun j hj => hl2.row j hj)).mono ?_
    rintro e w' ⟨rfl, h1, h2⟩
    refine ⟨_, rfl, ?_, h.trans (h2.mono h.size)⟩
    intro j hj
    rw [digl_len] at hj
    refine ⟨_, 0, rfl, h1.lt, ?_⟩
    rw [Nat.zero_add, h1.cell (by omega)]
    unfold digl
    rw [ls_at _ _ _ hj]
  have hcu : Tryz.prog.underlying 23 = some (.slice 3) := Tryz.underlying23
  have hci : (Tryz.prog.info? 3).map (·.size) = some 1 := by
    obtain ⟨i0, hi, _, hz1, _⟩ := info_parts Tryz.infoInt
    rw [hi]
    simp [hz1]
  have HCP : Hid (∀ (W : World) (x : Nat), Hid (RowB W.heap.size W (some ⟨x, 0, none⟩) (digl q n L)) → Below w.heap.size w W → ∃ W2, (∀ ty, (Builtin.copy_ #[23, 23] ty #[.slice (some ⟨c, 1, none⟩) 4 4, .slice (some ⟨x, 0, none⟩) 4 4]).run Tryz.prog W = .ok (goInt 4) W2) ∧ W2.cell? ⟨c, 0, none⟩ = some (.pointer (some ⟨s, 0, none⟩)) ∧ Hid (PCh N0 q n W2 c (digl q n L) ∧ w.grownBy W2 (some c))) := fun W x hr hb => by
    have hbW := (hb.block c hcl).trans hblk
    have hrun := fun ty => run_copy_row (P := Tryz.prog) W 23 23 ty 3 c 1 4 4 ⟨x, 0, none⟩ 4 4 _ _ ((digl q n L).map (Value.int .i64)) hcu hci hbW (by rw [List.length_map, digl_len]; rfl)
      (fun j v hj => by
        have hjl : j < (digl q n L).length := by
          rcases Nat.lt_or_ge j (digl q n L).length with g | g
          · exact g
          · simp [g] at hj
        obtain ⟨b', o', e1, _, e2⟩ := hr.out j hjl
        cases e1
        have hadd : (⟨x, 0, none⟩ : Addr).add j = ⟨x, 0 + j, none⟩ := by unfold Addr.add; split <;> simp_all
        rw [hadd, e2]
        simp [zat, hjl] at hj ⊢
        exact hj) (by rw [List.length_map, digl_len]; simp) (fun v hv => by obtain ⟨y, _, rfl⟩ := List.mem_map.1 hv; rfl)
    rw [List.length_map, digl_len] at hrun
    obtain ⟨W2, hW2⟩ : ∃ W2, W2 = W.setRow c ((#[Value.pointer (some ⟨s, 0, none⟩), .int .i64 (zat D 0), .int .i64 (zat D 1), .int .i64 (zat D 2), .int .i64 (zat D 3)] : Array Value).toList.take 1 ++ (digl q n L).map (Value.int .i64) ++ (#[Value.pointer (some ⟨s, 0, none⟩), .int .i64 (zat D 0), .int .i64 (zat D 1), .int .i64 (zat D 2), .int .i64 (zat D 3)] : Array Value).toList.drop (1 + 4)).toArray := ⟨_, rfl⟩
    rw [← hW2] at hrun
    have hb2 : W2.heap[c]? = some (.cells #[.pointer (some ⟨s, 0, none⟩), .int .i64 (zat (digl q n L) 0), .int .i64 (zat (digl q n L) 1), .int .i64 (zat (digl q n L) 2), .int .i64 (zat (digl q n L) 3)] 118 (0, 0)) := by
      rw [hW2, setRow_heap W c _ _ _ _ hbW]
      obtain ⟨x0, x1, x2, x3, hx⟩ : ∃ x0 x1 x2 x3, digl q n L = [x0, x1, x2, x3] := by
        have := digl_len q n L
        match digl q n L, this with
        | [x0, x1, x2, x3], _ => exact ⟨x0, x1, x2, x3, rfl⟩
      rw [hx]
      rfl
    have hg2 : w.grownBy W2 (some c) := by rw [hW2]; exact gb_setRow (gb_below hb) _
    refine ⟨W2, hrun, five0 hb2, ⟨s, b, d, ok, hs.blocks ?_ ?_, hsN, hbN, hcN, hb2⟩, hg2⟩
    · exact gb_blk hg2 hs.lt (by omega)
    · exact gb_blk hg2 hs.ltb (by omega)
  have HK : Hid (∀ W, Below w.heap.size w W → W.cell? ⟨c, 0, none⟩ = some (.pointer (some ⟨s, 0, none⟩))) := fun W h => (h.cell (p := ⟨c, 0, none⟩) hcl).trans (five0 hblk)
  have hb00 : Below w.heap.size w w.drew := (Below.refl _ _).drew
  clear ok hs hblk hfit hlen hl hL h1 hcu hci
  go_enter Tryz.func56, Tryz.ntmps56
  go_region_held3 (fun w' => w'.cell? ⟨c, 0, none⟩ = some (.pointer (some ⟨s, 0, none⟩))) (first | assumption | exact HK.out _ (by assumption) | go_keep)
    (first
      | (go_at_call 117; refine (HC.out _ (by assumption)).mono ?_; rintro e w' ⟨v, rfl, hown, hbj⟩)
      | (go_at_call 116; refine (HH.out _ _ _ (by assumption) (by assumption)).mono ?_; rintro e w' ⟨x, rfl, hrowx, hbh⟩; obtain ⟨W2, hcp, hc2, HE⟩ := HCP.out _ _ hrowx hbh))
  go_wp2_with fail
  go_end0
  exact ⟨rfl, HE.out⟩

end Go.Proofs.YtpgnabmkfkcogaaGreatDoor
