/- Package source: Parse. Programs as text: how an expression is written. -/
import Derived.Test.YthpkcageimhgaaaDoorSsE
import Derived.Test.YthpkcageimhgaaaDoorSqAA
namespace Go.Proofs.YthpkcageimhgaaaDoor
open Go.RowKit

/-- the numbers of the first k functions, by their names -/
def nmM (fs : List FnT) : Nat → List UInt8 → Option Int
  | 0 => fun _ => none
  | k + 1 => match fs[k]? with
    | some g => updI (nmM fs k) g.name (k : Int)
    | none => nmM fs k
/-- a program in memory, from a block on -/
def PgAt (lo : Nat) (w : World) (p : Nat) (fs : List FnT) : Prop := ∃ a c B, w.heap[p]? = some (.cells #[.slice a fs.length c, .map (some B)] 42 (0, 0)) ∧ lo ≤ p ∧ lo ≤ B ∧ (fs.length ≤ c ∧ c ≤ maxLen) ∧ FnR lo w a fs ∧ MapI nmk (fun x => x.length ≤ 4000) w B (nmM fs fs.length)
/-- how Parse ends -/
def PaR (w : World) (len : Nat) (r : Res (List FnT)) (e : Ending) (w' : World) : Prop := Below w.heap.size w w' ∧
  if 4000 < len then e = .returned (.tuple #[.pointer none, .int .i64 0, .iface 30 (.int .i64 9)])
  else match r with
  | .ok fs _ => (∃ p, e = .returned (.tuple #[.pointer (some ⟨p, 0, none⟩), .int .i64 0, .nilIface]) ∧ PgAt w.heap.size w' p fs) ∧ (∀ g, g ∈ fs → FW g) ∧ fs.length ≤ 4000
  | .bad er at' => e = .returned (.tuple #[.pointer none, .int .i64 (at' : Int), .iface 30 (.int .i64 (er : Int))])
  | .out => False
theorem neE (T : TypeId) (v : Value) (w : World) : (binOp BinOp.neq 24 (.iface T v) .nilIface).run Tryd.prog w = .ok (.bool true) w := by kernel_rfl
theorem neN (w : World) : (binOp BinOp.neq 24 .nilIface .nilIface).run Tryd.prog w = .ok (.bool false) w := by kernel_rfl
theorem pRes_ok {L : List UInt8} {f j : Nat} {fs : List FnT} (h : pRes L f = .ok fs j) (hL : L.length ≤ 4000) : (∀ g, g ∈ fs → FW g) ∧ fs.length ≤ 4000 := by
  have hal := pProg_al L hL f [] 0 (by simp) (Nat.le_refl _) (Nat.zero_le _)
  unfold pRes at h
  cases hq : pProg L f [] 0 with
  | out => rw [hq] at h; cases h
  | bad e a => rw [hq] at h; cases h
  | ok gs k =>
    rw [hq] at h hal
    obtain ⟨⟨_, hk⟩, h1, h2⟩ := hal
    cases hc : ckn gs L.length with
    | some y => simp [hc] at h
    | none =>
      simp [hc] at h
      obtain ⟨rfl, rfl⟩ := h
      exact ⟨h1, by omega⟩

set_option maxRecDepth 100000 in
set_option maxHeartbeats 2000000 in
theorem parse_any (T : ByteArray) (f : Nat) (w : World) (hTm : T.size ≤ 281474976710656) (hEv : EvW w) (r : Res (List FnT)) (hr : r = pRes (by' T) f) (hro : r ≠ .out) :
    Calls Tryd.prog 4 #[.string T] w (PaR w T.size r) := by
  have hmm := @run_makeMap Tryd.prog
  have hne := neE
  have hnn := neN
  have HWD : Hid (∀ e w', PaR w T.size r e w' → PaR w T.size r e w') := fun _ _ h => h
  by_cases h4 : 4000 < T.size
  · have q4 : (4000 : Int) < (T.size : Int) := by omega
    have HQ4 := hid h4
    clear h4 hr hro hEv
    go_enter Tryd.func4, Tryd.ntmps4
    go_wp2_with fail
    go_ret3
    exact ⟨Below.refl _ _, by rw [if_pos HQ4.out]; rfl⟩
  · have q4 : ¬ (4000 : Int) < (T.size : Int) := by omega
    have HQ4 := hid h4
    have HPD := hid (parsed_any T f w (by omega) hEv r hr hro)
    have HR := hid hr
    clear h4 hr hro hEv
    cases hrr : r with
    | out =>
      rw [hrr] at HPD
      go_enter Tryd.func4, Tryd.ntmps4
      go_wp2_with fail
      refine HPD.out.mono ?_
      rintro e w1 ⟨_, h⟩
      exact h.elim
    | bad er at' =>
      rw [hrr] at HPD
      go_enter Tryd.func4, Tryd.ntmps4
      go_wp2_with fail
      refine HPD.out.mono ?_
      rintro e w1 ⟨hb, rfl⟩
      have HB := hid hb
      clear hb HPD hrr HWD HR
      go_wp2_with fail
      go_ret3
      exact ⟨HB.out, by rw [if_neg HQ4.out]; rfl⟩
    | ok fs j =>
      rw [hrr] at HPD
      have hfw := pRes_ok (HR.out.symm.trans hrr) (by rw [by_len]; have := HQ4.out; omega)
      have HFW := hid hfw
      obtain ⟨n, hn⟩ : ∃ n, n = fs.length := ⟨_, rfl⟩
      have HN := hid hn
      have hn4 : n ≤ 4000 := by have := hfw.2; omega
      clear hrr HWD HR hfw hn
      go_enter Tryd.func4, Tryd.ntmps4
      go_wp2_with fail
      refine HPD.out.mono ?_
      rintro e w1 ⟨hb, a, c, rfl, hcc, hF⟩
      have HB1 := hid hb
      have HF1 := hid hF
      have HCC := hid hcc
      rw [← HN.out]
      clear hb HPD hF hcc
      go_wp2_with fail
      have HM0 : Hid (MapI nmk (fun x => x.length ≤ 4000) (w1.alloc (.map #[] 0)) w1.heap.size (nmM fs 0)) := MapI.new w1
      have HB0 : Hid (Below w1.heap.size w1 (w1.alloc (.map #[] 0))) := (Below.refl _ w1).alloc (Nat.le_refl _) _
      generalize w1.alloc (.map #[] 0) = W0 at *
      go_loopw [28] (fun iv wr => ∃ (k : Nat), k ≤ n ∧ iv = .int .i64 k ∧ Hid (MapI nmk (fun x => x.length ≤ 4000) wr w1.heap.size (nmM fs k)) ∧ Hid (Below w1.heap.size w1 wr)) (fun iv _ => n - (intOf iv).toNat)
      case atStart => exact ⟨0, Nat.zero_le _, rfl, HM0, HB0⟩
      case round =>
        obtain ⟨k, hk, rfl, hM, hbel⟩ := hrel
        by_cases hlt : k < n
        · have hlt2 : (k : Int) < (n : Int) := by omega
          have hks : IntKind.i64.wrap ((k : Int) + 1) = (k : Int) + 1 := by rw [IntKind.wrap_i64]; omega
          obtain ⟨g, hg⟩ : ∃ g, fs[k]? = some g := ⟨_, List.getElem?_eq_getElem (by have := HN.out; omega)⟩
          obtain ⟨kb, a2, c2, b, rfl, _, d0, d1, d2, d3, _⟩ := HF1.out k g hg
          have c0 := (hbel.out.cell (p := ⟨kb, k * 4, none⟩) (World.block_lt_of_cell? _ _ d0)).trans d0
          have c1 := (hbel.out.cell (p := ⟨kb, k * 4 + 1, none⟩) (World.block_lt_of_cell? _ _ d1)).trans d1
          have c2' := (hbel.out.cell (p := ⟨kb, k * 4 + 2, none⟩) (World.block_lt_of_cell? _ _ d2)).trans d2
          have c3 := (hbel.out.cell (p := ⟨kb, k * 4 + 3, none⟩) (World.block_lt_of_cell? _ _ d3)).trans d3
          have HFO := hid ((HFW.out.1 g (List.mem_of_getElem? hg)).ok)
          have HG := hid hg
          clear d0 d1 d2 d3 hg
          go_wp2_with (refine wpList_updateI namK _ rfl _ _ _ rfl w1.heap.size (nmM fs k) rfl ?_ g.name (k : Int) rfl rfl HFO.out.1 ?_)
          · exact hM.out.below ((Below.refl _ wr).alloc (Nat.le_refl _) _)
          · intro w' hM' hgb
            have HM' : Hid (MapI nmk (fun x => x.length ≤ 4000) w' w1.heap.size (nmM fs (k + 1))) := by unfold Hid; rw [nmM, HG.out]; exact hM'
            have HB' : Hid (Below w1.heap.size w1 w') := gb_belS (hbel.out.trans (((Below.refl _ wr).alloc (Nat.le_refl _) _).mono hbel.out.size)) hgb (Nat.le_refl _) rfl
            clear hM' hgb hM hbel c0 c1 c2' c3
            go_wp2_with fail
            go_roundw
            case rel => exact ⟨k + 1, by omega, by go_num, HM', HB'⟩
            case measure => simp [intOf]; omega
        · obtain rfl : k = n := by omega
          have hlt2 : ¬ (k : Int) < (k : Int) := by omega
          go_wp2_with fail
          go_ret3
          have hbA : Below wr.heap.size wr (wr.alloc (.cells #[.slice a k c, .map (some w1.heap.size)] 42)) := (Below.refl _ _).alloc (Nat.le_refl _) _
          have hb1 := hbel.out.trans (hbA.mono hbel.out.size)
          refine ⟨HB1.out.trans (hb1.mono HB1.out.size), ?_⟩
          rw [if_neg HQ4.out]
          refine ⟨⟨wr.heap.size, rfl, a, c, w1.heap.size, ?_, ?_, HB1.out.size, HCC.out, ?_, ?_⟩, HFW.out⟩
          · rw [← HN.out]; exact heap_alloc_new wr _
          · exact Nat.le_trans HB1.out.size hbel.out.size
          · exact FnR.kept HF1.out (Nat.le_refl _) (fun b _ hl => hb1.block b hl)
          · rw [← HN.out]; exact hM.out.below hbA

end Go.Proofs.YthpkcageimhgaaaDoor

namespace Go.Proofs.YthpkcageimhgaaaDoor

/-- what the reference calls a part -/
def opS : Nat → List UInt8
  | 0 => [110, 117, 109, 98, 101, 114]
  | 1 => [110, 97, 109, 101]
  | 2 => [99, 97, 108, 108]
  | 3 => [110, 101, 103]
  | 4 => [43]
  | 5 => [45]
  | 6 => [42]
  | 7 => [47]
  | 8 => [61, 61]
  | 9 => [108, 101, 116]
  | 10 => [110, 101, 101, 100]
  | 11 => [105, 102]
  | _ => []
/-- how tightly a kind holds -/
def hld (k : Nat) : Nat := if k < 4 then 4 else if k < 6 then 2 else if k < 8 then 3 else if k = 8 then 1 else 0
/-- in brackets, where it does not hold tightly enough -/
def par (h least : Nat) (s : List UInt8) : List UInt8 := if h < least then [40] ++ s ++ [41] else s
def knd : Tr → Nat
  | .node k _ _ _ _ => k
/-- a part's text, where it has to hold so tightly -/
def kt (ks : List (Nat × List UInt8)) (i least : Nat) : List UInt8 := match ks[i]? with
  | some x => par x.1 least x.2
  | none => []
/-- with commas -/
def jnC (ks : List (Nat × List UInt8)) : Nat → List UInt8
  | 0 => []
  | j + 1 => jnC ks j ++ (if 0 < j then [44, 32] else []) ++ kt ks j 0
/-- an expression of its parts' texts; it: how a number is written -/
def inK (it : Nat → List UInt8) (k : Nat) (nm : List UInt8) (n : Nat) (ks : List (Nat × List UInt8)) : List UInt8 :=
  if k = 0 then it n else if k = 1 then nm else if k = 2 then nm ++ [40] ++ jnC ks ks.length ++ [41]
  else if k = 3 then [45] ++ kt ks 0 4
  else if k = 9 then [108, 101, 116, 32] ++ nm ++ [32, 61, 32] ++ kt ks 0 0 ++ [59, 32] ++ kt ks 1 0
  else if k = 10 then [110, 101, 101, 100, 32] ++ kt ks 0 2 ++ [32, 61, 61, 32] ++ kt ks 1 2 ++ [59, 32] ++ kt ks 2 0
  else if k = 11 then [105, 102, 32] ++ kt ks 0 0 ++ [32, 116, 104, 101, 110, 32] ++ kt ks 1 0 ++ [32, 101, 108, 115, 101, 32] ++ kt ks 2 0
  else if k = 8 then kt ks 0 2 ++ [32, 61, 61, 32] ++ kt ks 1 2
  else kt ks 0 (hld k) ++ [32] ++ opS k ++ [32] ++ kt ks 1 (hld k + 1)
mutual
/-- an expression as text -/
def inT (it : Nat → List UInt8) : Tr → List UInt8
  | .node k nm _ n kids => inK it k nm n (inTs it kids)
def inTs (it : Nat → List UInt8) : List Tr → List (Nat × List UInt8)
  | [] => []
  | t :: r => (hld (knd t), inT it t) :: inTs it r
end
theorem inTs_at (it : Nat → List UInt8) : ∀ (ts : List Tr) (i : Nat), (inTs it ts)[i]? = ts[i]?.map fun t => (hld (knd t), inT it t)
  | [], i => by simp [inTs]
  | t :: r, 0 => by simp [inTs]
  | t :: r, i + 1 => by rw [inTs]; simp [inTs_at it r i]
theorem inTs_len (it : Nat → List UInt8) : ∀ (ts : List Tr), (inTs it ts).length = ts.length
  | [] => by simp [inTs]
  | t :: r => by rw [inTs]; simp [inTs_len it r]
theorem kt_at (it : Nat → List UInt8) {ts : List Tr} {i : Nat} {t : Tr} (h : ts[i]? = some t) (least : Nat) : kt (inTs it ts) i least = par (hld (knd t)) least (inT it t) := by
  unfold kt; rw [inTs_at, h]; rfl

end Go.Proofs.YthpkcageimhgaaaDoor
