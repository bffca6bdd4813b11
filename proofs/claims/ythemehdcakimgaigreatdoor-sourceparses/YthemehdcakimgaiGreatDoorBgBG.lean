/- strings.Join, the builder of strings, strconv.Itoa: laid for this program. Package source: calls written; names joined. Package source: any expression written. -/
import Derived.Shelf.Strings.OnBuilder
import Derived.Shelf.Strings.Builder1
import Derived.Shelf.LaysM
import Derived.Shelf.Strconv.Itoa3
import Derived.Test.YthemehdcakimgaiGreatDoorProg
import Derived.Test.YthemehdcakimgaiGreatDoorBgBD
import Derived.Deep.OwnRows
import Derived.Test.YthemehdcakimgaiGreatDoorBgBE
import Derived.Test.YthemehdcakimgaiGreatDoorBgBF
namespace Go.Proofs
open Go.Shelf Go.RowKit

open Go.Shelf Go.RowKit
def Tryz.lays169_ren : Go.Shelf.Ren := ⟨fun | 169 => 21 | n => n, fun | 70 => 65 | 9 => 9 | 0 => 0 | 72 => 68 | 37 => 66 | 127 => 90 | 3 => 3 | 5 => 5 | n => n, fun | n => n⟩
theorem Tryz.lays169 : Go.Proofs.Lays.n169 Tryz.prog Tryz.lays169_ren := {
  mixed := by kernel_rfl
  f169 := Tryz.func21.trans (congrArg some (by kernel_rfl))
  t0 := Tryz.underlying0
  a0 := Tryz.isAgg0
  z0 := Tryz.sizeOf0
  v0 := Tryz.zeroValue0
  t3 := Tryz.underlying3
  a3 := Tryz.isAgg3
  z3 := Tryz.sizeOf3
  v3 := Tryz.zeroValue3
  t9 := Tryz.underlying9
  a9 := Tryz.isAgg9
  z9 := Tryz.sizeOf9
  v9 := Tryz.zeroValue9
  t37 := Tryz.underlying66
  a37 := Tryz.isAgg66
  z37 := Tryz.sizeOf66
  v37 := Tryz.zeroValue66
  t70 := Tryz.underlying65
  a70 := Tryz.isAgg65
  z70 := Tryz.sizeOf65
  v70 := Tryz.zeroValue65
  t72 := Tryz.underlying68
  a72 := Tryz.isAgg68
  z72 := Tryz.sizeOf68
  v72 := Tryz.zeroValue68
  t127 := Tryz.underlying90
  a127 := Tryz.isAgg90
  z127 := Tryz.sizeOf90
  v127 := Tryz.zeroValue90 }
theorem Tryz.Builder_Extra_169 : Builder.Extra Tryz.prog Tryz.lays169_ren := {
  sizeBuilder := by kernel_rfl
  liesBuilder := by kernel_rfl
  t5 := Tryz.underlying5
  a5 := Tryz.isAgg5
  z5 := Tryz.sizeOf5
  v5 := Tryz.zeroValue5
  infoByte := by kernel_rfl
  cellsByte := by kernel_rfl
  sizeByte := by kernel_rfl
  neB5 := by decide }
open Go.RowKit in
theorem Tryz.Builder_String_any (B b : Nat) (l : List UInt8) (w : World) (h : Lib.IsBuilder 68 5 B b (Lib.byteCells l) w) (hBw : B ≤ w.heap.size) :
    Calls Tryz.prog 21 #[.pointer (some ⟨b, 0, none⟩)] w fun e w' => e = .returned (.string ⟨l.toArray⟩) ∧ Below B w w' := Any.Builder_String_any Tryz.lays169 Tryz.Builder_Extra_169 B b l w h hBw
def Tryz.lays156_ren : Go.Shelf.Ren := ⟨fun | 156 => 39 | 165 => 63 | 166 => 19 | 169 => 21 | 240 => 38 | 241 => 83 | 276 => 62 | 277 => 100 | n => n, fun | 31 => 37 | 9 => 9 | 3 => 3 | 4 => 4 | 0 => 0 | 20 => 20 | 72 => 68 | 76 => 69 | 70 => 65 | 37 => 66 | 75 => 24 | 127 => 90 | 164 => 113 | 5 => 5 | 80 => 31 | n => n, fun | n => n⟩
theorem Tryz.lays156 : Go.Proofs.Lays.n156 Tryz.prog Tryz.lays156_ren := {
  mixed := by kernel_rfl
  f156 := Tryz.func39.trans (congrArg some (by kernel_rfl))
  f165 := Tryz.func63.trans (congrArg some (by kernel_rfl))
  f166 := Tryz.func19.trans (congrArg some (by kernel_rfl))
  f169 := Tryz.func21.trans (congrArg some (by kernel_rfl))
  f240 := Tryz.func38.trans (congrArg some (by kernel_rfl))
  f241 := Tryz.func83.trans (congrArg some (by kernel_rfl))
  f276 := Tryz.func62.trans (congrArg some (by kernel_rfl))
  f277 := Tryz.func100.trans (congrArg some (by kernel_rfl))
  t0 := Tryz.underlying0
  a0 := Tryz.isAgg0
  z0 := Tryz.sizeOf0
  v0 := Tryz.zeroValue0
  t3 := Tryz.underlying3
  a3 := Tryz.isAgg3
  z3 := Tryz.sizeOf3
  v3 := Tryz.zeroValue3
  t4 := Tryz.underlying4
  a4 := Tryz.isAgg4
  z4 := Tryz.sizeOf4
  v4 := Tryz.zeroValue4
  t9 := Tryz.underlying9
  a9 := Tryz.isAgg9
  z9 := Tryz.sizeOf9
  v9 := Tryz.zeroValue9
  t20 := Tryz.underlying20
  a20 := Tryz.isAgg20
  z20 := Tryz.sizeOf20
  v20 := Tryz.zeroValue20
  t31 := Tryz.underlying37
  a31 := Tryz.isAgg37
  z31 := Tryz.sizeOf37
  v31 := Tryz.zeroValue37
  t37 := Tryz.underlying66
  a37 := Tryz.isAgg66
  z37 := Tryz.sizeOf66
  v37 := Tryz.zeroValue66
  t70 := Tryz.underlying65
  a70 := Tryz.isAgg65
  z70 := Tryz.sizeOf65
  v70 := Tryz.zeroValue65
  t72 := Tryz.underlying68
  a72 := Tryz.isAgg68
  z72 := Tryz.sizeOf68
  v72 := Tryz.zeroValue68
  t75 := Tryz.underlying24
  a75 := Tryz.isAgg24
  z75 := Tryz.sizeOf24
  v75 := Tryz.zeroValue24
  t76 := Tryz.underlying69
  a76 := Tryz.isAgg69
  z76 := Tryz.sizeOf69
  v76 := Tryz.zeroValue69
  t127 := Tryz.underlying90
  a127 := Tryz.isAgg90
  z127 := Tryz.sizeOf90
  v127 := Tryz.zeroValue90
  t164 := Tryz.underlying113
  a164 := Tryz.isAgg113
  z164 := Tryz.sizeOf113
  v164 := Tryz.zeroValue113 }
theorem Tryz.Builder_Extra_156 : Builder.Extra Tryz.prog Tryz.lays156_ren := {
  sizeBuilder := by kernel_rfl
  liesBuilder := by kernel_rfl
  t5 := Tryz.underlying5
  a5 := Tryz.isAgg5
  z5 := Tryz.sizeOf5
  v5 := Tryz.zeroValue5
  infoByte := by kernel_rfl
  cellsByte := by kernel_rfl
  sizeByte := by kernel_rfl
  neB5 := by decide }
open Go.RowKit in
theorem Tryz.strings_Join_none (a : Option Addr) (c : Nat) (sep : ByteArray) (w : World) :
    Calls Tryz.prog 39 #[.slice a 0 c, .string sep] w fun e w' => e = .returned (.string ⟨#[]⟩) ∧ w' = w := Any.strings_Join_none Tryz.lays156 Tryz.Builder_Extra_156 a c sep w
open Go.RowKit in
theorem Tryz.strings_Join (bk o c : Nat) (xs : List ByteArray) (sep : ByteArray) (w : World) (hcells : ∀ (j : Nat) x, xs[j]? = some x → w.cell? ⟨bk, o + j, none⟩ = some (.string x)) (hbk : bk < w.heap.size) (hN : xs.length ≤ 140737488355328) (hcap : xs.length ≤ c) (hlen : (Lib.join (xs.map (·.data.toList)) sep.data.toList).length ≤ 140737488355328) :
    Calls Tryz.prog 39 #[.slice (some ⟨bk, o, none⟩) xs.length c, .string sep] w fun e w' => e = .returned (.string ⟨(Lib.join (xs.map (·.data.toList)) sep.data.toList).toArray⟩) ∧ Below w.heap.size w w' := Any.strings_Join Tryz.lays156 Tryz.Builder_Extra_156 bk o c xs sep w hcells hbk hN hcap hlen
def Tryz.laysM171_ren : Go.Shelf.Ren := ⟨fun | 171 => 64 | 243 => 84 | 246 => 101 | 283 => 108 | 284 => 109 | 285 => 110 | 286 => 111 | 129 => 115 | 317 => 114 | 318 => 116 | 319 => 117 | 320 => 118 | 337 => 124 | 338 => 125 | n => n, fun | 3 => 3 | 9 => 9 | 2 => 2 | 4 => 4 | 171 => 172 | 0 => 0 | 53 => 173 | 37 => 66 | 5 => 5 | 173 => 176 | 212 => 180 | 51 => 181 | 20 => 20 | 213 => 182 | 46 => 184 | 232 => 188 | 233 => 189 | n => n, fun | 17 => 2 | 18 => 3 | 19 => 4 | n => n⟩
theorem Tryz.laysM171 : Go.Proofs.LaysM.n171 Tryz.prog Tryz.laysM171_ren := {
  mixed := by kernel_rfl
  f129 := Tryz.func115.trans (congrArg some (by kernel_rfl))
  f171 := Tryz.func64.trans (congrArg some (by kernel_rfl))
  f243 := Tryz.func84.trans (congrArg some (by kernel_rfl))
  f246 := Tryz.func101.trans (congrArg some (by kernel_rfl))
  f283 := Tryz.func108.trans (congrArg some (by kernel_rfl))
  f284 := Tryz.func109.trans (congrArg some (by kernel_rfl))
  f285 := Tryz.func110.trans (congrArg some (by kernel_rfl))
  f286 := Tryz.func111.trans (congrArg some (by kernel_rfl))
  f317 := Tryz.func114.trans (congrArg some (by kernel_rfl))
  f318 := Tryz.func116.trans (congrArg some (by kernel_rfl))
  f319 := Tryz.func117.trans (congrArg some (by kernel_rfl))
  f320 := Tryz.func118.trans (congrArg some (by kernel_rfl))
  f337 := Tryz.func124.trans (congrArg some (by kernel_rfl))
  f338 := Tryz.func125.trans (congrArg some (by kernel_rfl))
  t0 := Tryz.underlying0
  a0 := Tryz.isAgg0
  z0 := Tryz.sizeOf0
  v0 := Tryz.zeroValue0
  t2 := Tryz.underlying2
  a2 := Tryz.isAgg2
  z2 := Tryz.sizeOf2
  v2 := Tryz.zeroValue2
  t3 := Tryz.underlying3
  a3 := Tryz.isAgg3
  z3 := Tryz.sizeOf3
  v3 := Tryz.zeroValue3
  t4 := Tryz.underlying4
  a4 := Tryz.isAgg4
  z4 := Tryz.sizeOf4
  v4 := Tryz.zeroValue4
  t5 := Tryz.underlying5
  a5 := Tryz.isAgg5
  z5 := Tryz.sizeOf5
  v5 := Tryz.zeroValue5
  t9 := Tryz.underlying9
  a9 := Tryz.isAgg9
  z9 := Tryz.sizeOf9
  v9 := Tryz.zeroValue9
  t20 := Tryz.underlying20
  a20 := Tryz.isAgg20
  z20 := Tryz.sizeOf20
  v20 := Tryz.zeroValue20
  t37 := Tryz.underlying66
  a37 := Tryz.isAgg66
  z37 := Tryz.sizeOf66
  v37 := Tryz.zeroValue66
  t46 := Tryz.underlying184
  a46 := Tryz.isAgg184
  z46 := Tryz.sizeOf184
  v46 := Tryz.zeroValue184
  t51 := Tryz.underlying181
  a51 := Tryz.isAgg181
  z51 := Tryz.sizeOf181
  v51 := Tryz.zeroValue181
  t53 := Tryz.underlying173
  a53 := Tryz.isAgg173
  z53 := Tryz.sizeOf173
  v53 := Tryz.zeroValue173
  t171 := Tryz.underlying172
  a171 := Tryz.isAgg172
  z171 := Tryz.sizeOf172
  v171 := Tryz.zeroValue172
  t173 := Tryz.underlying176
  a173 := Tryz.isAgg176
  z173 := Tryz.sizeOf176
  v173 := Tryz.zeroValue176
  t212 := Tryz.underlying180
  a212 := Tryz.isAgg180
  z212 := Tryz.sizeOf180
  v212 := Tryz.zeroValue180
  t213 := Tryz.underlying182
  a213 := Tryz.isAgg182
  z213 := Tryz.sizeOf182
  t232 := Tryz.underlying188
  a232 := Tryz.isAgg188
  z232 := Tryz.sizeOf188
  v232 := Tryz.zeroValue188
  t233 := Tryz.underlying189
  a233 := Tryz.isAgg189
  z233 := Tryz.sizeOf189
  v233 := Tryz.zeroValue189
  g17 := by kernel_rfl
  g18 := by kernel_rfl
  g19 := by kernel_rfl
  i0 := by kernel_rfl
  i2 := by kernel_rfl
  i3 := by kernel_rfl
  i4 := by kernel_rfl
  i5 := by kernel_rfl
  i9 := by kernel_rfl
  i20 := by kernel_rfl
  i37 := by kernel_rfl
  i46 := by kernel_rfl
  i51 := by kernel_rfl
  i53 := by kernel_rfl
  i171 := by kernel_rfl
  i173 := by kernel_rfl
  i212 := by kernel_rfl
  i232 := by kernel_rfl
  i233 := by kernel_rfl
  m17 := by kernel_rfl
  m18 := by kernel_rfl
  m19 := by kernel_rfl }
open Go.RowKit Go.Sort Go.Lib in
theorem Tryz.strconv_Itoa (n : Int) (h0 : -9223372036854775808 ≤ n) (h1 : n ≤ 9223372036854775807) (w : World) (htab : Lib.TabIs Tryz.prog w "internal/strconv.uint64pow10" .u64 Lib.pow10Tab) :
    Calls Tryz.prog 64 #[.int .i64 n] w fun e w' => e = .returned (.string ⟨(Lib.itoa n).toArray⟩) ∧ ∃ k os, w' = grow (w.drewN k) os := Any.strconv_Itoa Tryz.laysM171 n h0 h1 w htab

theorem Tryz.Builder_WriteString (B b : Nat) (bs : List Value) (s : ByteArray) (w : World) (h : Lib.IsBuilder 68 5 B b bs w) (hlen : bs.length + s.size ≤ 140737488355328) (hBw : B ≤ w.heap.size) :
    Calls Tryz.prog 19 #[.pointer (some ⟨b, 0, none⟩), .string s] w fun e w' => e = .returned (.tuple #[.int .i64 s.size, .nilIface]) ∧ (Lib.BuilderAt 68 5 B b (.pointer (some ⟨b, 0, none⟩)) (bs ++ Lib.strCells s) w' ∧ Below B w w') :=
  Any.Builder_WriteString (ρ := Tryz.lays156_ren) { Tryz.lays156 with } Tryz.Builder_Extra_156 B b bs s w h hlen hBw

end Go.Proofs

namespace Go.Proofs.YthemehdcakimgaiGreatDoor
open Go.RowKit

/-- strings, one after another; the first k of them alone -/
def stV (F : Nat → List UInt8) (k : Nat) (i : Nat) : Value := .string (if i < k then bs (F i) else ⟨#[]⟩)
/-- .. with commas -/
def jnF (F : Nat → List UInt8) : Nat → List UInt8
  | 0 => []
  | j + 1 => jnF F j ++ (if 0 < j then [44, 32] else []) ++ F j
theorem jnC_F (ks : List (Nat × List UInt8)) : ∀ j, jnC ks j = jnF (fun i => kt ks i 0) j
  | 0 => rfl
  | j + 1 => by rw [jnC, jnF, jnC_F ks j]
theorem nmC_F (ms : List (List UInt8 × Nat)) : ∀ j, nmC ms j = jnF (fun i => match ms[i]? with | some x => x.1 | none => []) j
  | 0 => rfl
  | j + 1 => by rw [nmC, jnF, nmC_F ms j]; rfl
theorem jnF_join (F : Nat → List UInt8) : ∀ j, jnF F j = Lib.join ((List.range j).map F) [44, 32]
  | 0 => rfl
  | j + 1 => by
    rw [jnF, jnF_join F j, List.range_succ, List.map_append, List.map_cons, List.map_nil]
    cases hj : (List.range j).map F with
    | nil =>
      have : j = 0 := by simpa using hj
      subst this
      rw [List.nil_append, Lib.join_one, Lib.join_nil]
      simp
    | cons x r =>
      have : 0 < j := by
        rcases Nat.eq_zero_or_pos j with h | h
        · subst h; simp at hj
        · exact h
      rw [if_pos this, List.cons_append, Lib.join_cons, Lib.join_cons, Lib.joinTail, Lib.joinTail]
      simp
theorem pjoin_any (F : Nat → List UInt8) (K m : Nat) (w : World) (hm : m ≤ 4000) (hR : w.rowIs K 9 m (stV F m)) (hl : (jnF F m).length ≤ 100000000) :
    Calls Tryz.prog 39 #[.slice (some ⟨K, 0, none⟩) m m, .string ⟨#[44, 32]⟩] w fun e w' => e = .returned (.string (bs (jnF F m))) ∧ Below w.heap.size w w' := by
  have hmap : ((List.range m).map fun i => bs (F i)).map (·.data.toList) = (List.range m).map F := by
    rw [List.map_map]
    apply List.map_congr_left
    intro i _
    simp [bs]
  have h := Tryz.strings_Join K 0 m ((List.range m).map fun i => bs (F i)) ⟨#[44, 32]⟩ w (fun j x hx => by
    have hj : j < m := by
      rcases Nat.lt_or_ge j m with h | h
      · exact h
      · rw [List.getElem?_eq_none (by simpa using h)] at hx; cases hx
    have hx2 : x = bs (F j) := by simp [hj] at hx; exact hx.symm
    rw [hx2, Nat.zero_add, hR.cell hj]
    unfold stV
    rw [if_pos hj]) (by obtain ⟨cs, h1, _⟩ := hR; exact (Array.getElem?_eq_some_iff.1 h1).1) (by simp; omega) (by simp) (by rw [hmap]; rw [show (⟨#[44, 32]⟩ : ByteArray).data.toList = [44, 32] from rfl, ← jnF_join]; omega)
  rw [hmap, show (⟨#[44, 32]⟩ : ByteArray).data.toList = [44, 32] from rfl, ← jnF_join] at h
  simpa [bs] using h

set_option maxRecDepth 100000 in
set_option maxHeartbeats 2000000 in
theorem pargs_of (F : Nat → List UInt8) (b k at' n m c : Nat) (nm : List UInt8) (av : Option Addr) (w : World) (hm : m ≤ 4000)
    (hh : w.heap[b]? = some (.cells #[.int .i64 (k : Int), .string (bs nm), .int .i64 (at' : Int), .int .i64 (n : Int), .slice av m c] 129 (0, 0)))
    (hO : ∀ W, Below w.heap.size w W → ∀ i, i < m → Calls Tryz.prog 66 #[.pointer (some ⟨b, 0, none⟩), .int .i64 (i : Int), .int .i64 0] W fun e w' => e = .returned (.string (bs (F i))) ∧ Below W.heap.size W w') :
    Calls Tryz.prog 65 #[.pointer (some ⟨b, 0, none⟩)] w fun e w' => ∃ K, e = .returned (.slice (some ⟨K, 0, none⟩) m m) ∧ w'.rowIs K 9 m (stV F m) ∧ Below w.heap.size w w' := by
  have e4 : w.cell? ⟨b, 4, none⟩ = some (.slice av m c) := by simp [World.cell?, hh]
  have e4' : (w.alloc (.cells (madeCells #[.string ⟨#[]⟩] m) 9)).cell? ⟨b, 4, none⟩ = some (.slice av m c) := (((Below.refl _ w).alloc (Nat.le_refl _) _).cell (p := ⟨b, 4, none⟩) (World.block_lt_of_cell? _ _ e4)).trans e4
  have HO := hid hO
  have HB0 : Hid (Below w.heap.size w (w.alloc (.cells (madeCells #[.string ⟨#[]⟩] m) 9))) := (Below.refl _ w).alloc (Nat.le_refl _) _
  have HR0 : Hid ((w.alloc (.cells (madeCells #[.string ⟨#[]⟩] m) 9)).rowIs w.heap.size 9 m (stV F 0)) := (World.rowIs_made w _ m _).congr (fun i _ => by unfold stV; rw [if_neg (by omega)])
  have hSI : (Tryz.prog.info? 9).map (fun i => (i.zero, i.size, i.bytes)) = some (some (.string ⟨#[]⟩), 1, 16) := by kernel_rfl
  obtain ⟨i0, hi, hz0, hz1, hz2⟩ := info_parts hSI
  clear hh hO hSI
  go_enter Tryz.func65, Tryz.ntmps65
  go_wp2_with (refine wpList_make_row _ rfl _ _ _ rfl 9 i0 (.string ⟨#[]⟩) Tryz.underlying37 hi hz0 hz1 rfl .i64 .i64 m rfl rfl (by rw [hz2]; omega) (by omega) ?_)
  clear e4 e4'
  generalize w.alloc (.cells (madeCells #[.string ⟨#[]⟩] m) 9) = W0 at *
  obtain ⟨K0, hK0⟩ : ∃ K0, K0 = w.heap.size := ⟨_, rfl⟩
  rw [← hK0] at HR0
  rw [← hK0]
  have HK0 := hid hK0
  clear hK0
  go_loopw [4, 16] (fun _ iv wr => ∃ (k : Nat), k ≤ m ∧ iv = .int .i64 k ∧ Hid (wr.rowIs K0 9 m (stV F k)) ∧ Hid (Below w.heap.size w wr)) (fun _ iv _ => m - (intOf iv).toNat)
  case atStart => exact ⟨0, Nat.zero_le _, rfl, HR0, HB0⟩
  case round =>
    obtain ⟨k, hk, rfl, hR, hbel⟩ := hrel
    by_cases hlt : k < m
    · have hlt2 : (k : Int) < (m : Int) := by omega
      have hks : IntKind.i64.wrap ((k : Int) + 1) = (k : Int) + 1 := by rw [IntKind.wrap_i64]; omega
      have HC := hid (HO.out wr hbel.out k hlt)
      have HN : Hid (∀ W, Below wr.heap.size wr W → W.rowIs K0 9 m (stV F k)) := fun W hW => by
        obtain ⟨cs, h1, h2⟩ := hR.out
        exact ⟨cs, (hW.block K0 (Array.getElem?_eq_some_iff.1 h1).1).trans h1, h2⟩
      have HS : Hid (∀ W : World, W.rowIs K0 9 m (stV F k) → (W.setCell ⟨K0, k, none⟩ (.string (bs (F k)))).rowIs K0 9 m (stV F (k + 1))) := fun W h => (h.set k (.string (bs (F k)))).congr (fun i _ => by
        by_cases e : i = k
        · rw [if_pos e, e]; unfold stV; rw [if_pos (by omega)]
        · rw [if_neg e]; unfold stV
          by_cases e2 : i < k
          · rw [if_pos e2, if_pos (by omega)]
          · rw [if_neg e2, if_neg (by omega)])
      generalize bs (F k) = S at *
      clear hR
      go_wp2_with fail
      refine HC.out.mono ?_
      rintro e w2 ⟨rfl, hb2⟩
      have hR2 := HN.out w2 hb2
      have r1 := hR2.cell (i := k) hlt
      have r2 := hR2.frozen k
      have HR3 := hid (HS.out w2 hR2)
      have HB3 : Hid (Below w.heap.size w (w2.setCell ⟨K0, k, none⟩ (.string S))) := by
        have h1 := hbel.out.trans (hb2.mono hbel.out.size)
        exact ⟨h1.os, h1.tape, h1.output, by simpa [World.setCell] using h1.size, fun j hj => (Below.heap_setCell _ _ _ _ (by show j ≠ K0; have := HK0.out; omega)).trans (h1.block j hj)⟩
      unfold stV at r1
      clear hb2 hR2 HC HN HS hbel
      go_wp2_with fail
      go_roundw
      case rel => exact ⟨k + 1, by omega, by go_num, HR3, HB3⟩
      case measure => simp [intOf]; omega
    · obtain rfl : k = m := by omega
      have hlt2 : ¬ (k : Int) < (k : Int) := by omega
      go_wp2_with fail
      go_ret
      exact ⟨K0, rfl, hR.out, hbel.out⟩

end Go.Proofs.YthemehdcakimgaiGreatDoor

namespace Go.Proofs.YthemehdcakimgaiGreatDoor
open Go.RowKit

set_option maxRecDepth 100000 in
set_option maxHeartbeats 4000000 in
theorem ptx_call (it : Nat → List UInt8) (Ctx : World → Prop) (B : Nat → Prop) (N : Nat) (hit : ∀ n, n ≤ 9223372036854775807 → (it n).length ≤ 20) (hCx : ∀ W W', Ctx W → Below W.heap.size W W' → Ctx W') (_hIt : ∀ (n : Nat) (W : World), n ≤ 9223372036854775807 → Ctx W → Calls Tryz.prog 64 #[.int .i64 (n : Int)] W fun e w' => e = .returned (.string (bs (it n))) ∧ Below W.heap.size W w') (hN : N < 1000000) (ih : PTX it Ctx B N) (kd : Nat) (nm : List UInt8) (at' nn : Nat) (kids : List Tr) (x : Value) (w : World) (h : 1 + tszs kids ≤ N + 1) (hT : TW (.node kd nm at' nn kids)) (hC : Ctx w) (hX : PTB B w (.node kd nm at' nn kids) x) (hkd : kd = 2) :
    Calls Tryz.prog 41 #[x] w fun e w' => e = .returned (.string (bs (inK it kd nm nn (inTs it kids)))) ∧ Below w.heap.size w w' := by
  obtain ⟨hsh, hTs⟩ := hT
  obtain ⟨b, ax, cx, rfl, hb, hh, hK⟩ := hX
  have HOW : Hid (∀ (W : World), Below w.heap.size w W → ∀ (i rk least : Nat) (t : Tr), kids[i]? = some t → i ≤ 4000 → rkl rk least → Calls Tryz.prog 66 #[.pointer (some ⟨b, 0, none⟩), .int .i64 (i : Int), .int .i64 (rk : Int)] W fun e w' => e = .returned (.string (bs (kt (inTs it kids) i least))) ∧ Below w.heap.size w w') := fun W hW i rk least t ht hi hr => by
    have hkl := kid_lt kids i t ht
    have hTt := hTs.at ht
    have hl := inT_len it hit t hTt
    refine (pown_of it Ctx B N ih b kd at' nn i rk least cx nm ax kids t W hr (by omega) hTt (hCx _ _ hC hW) hi ((hW.block b (Array.getElem?_eq_some_iff.1 hh).1).trans hh) (PTBs.keep (fun b hB hl => ⟨hB, hW.block b hl⟩) _ _ _ hK) ht (by omega)).mono fun e w' ⟨h1, h2⟩ => ⟨h1, hW.trans (h2.mono hW.size)⟩
  have HKL : Hid (∀ (i least : Nat), (bs (kt (inTs it kids) i least)).size ≤ 50000000) := fun i least => by
    rw [bs_size]
    cases hi : kids[i]? with
    | none => unfold kt; rw [inTs_at, hi]; simp
    | some t =>
      rw [kt_at it hi]
      have h1 := par_len (hld (knd t)) least (inT it t)
      have h2 := inT_len it hit t (hTs.at hi)
      have h3 := kid_lt kids i t hi
      omega
  have hns : (bs nm).size ≤ 16 := by
    rw [bs_size]
    rcases hsh with h | h | h | h | h | h | h
    · rw [h.2.1]; simp
    · exact h.2.1.2.1
    · exact h.2.1.2.1
    · rw [h.2.1]; simp
    · rw [h.2.2.1]; simp
    · exact h.2.1.2.1
    · rw [h.2.2.1]; simp
  have e0 : w.cell? ⟨b, 0, none⟩ = some (.int .i64 (kd : Int)) := by simp [World.cell?, hh]
  have e1 : w.cell? ⟨b, 1, none⟩ = some (.string (bs nm)) := by simp [World.cell?, hh]
  have HB0 : Hid (Below w.heap.size w w) := Below.refl _ _
  have HE : Hid (bs (inK it kd nm nn (inTs it kids)) = bs nm ++ (⟨#[40]⟩ : ByteArray) ++ bs (jnF (fun i => kt (inTs it kids) i 0) kids.length) ++ (⟨#[41]⟩ : ByteArray)) := by
    unfold Hid inK
    rw [if_neg (by omega), if_neg (by omega), if_pos hkd, inTs_len, jnC_F]
    simp only [← bs_app]
    rfl
  have hml : kids.length ≤ 4000 := by rcases hsh with h | h | h | h | h | h | h <;> omega
  have hjl : (jnF (fun i => kt (inTs it kids) i 0) kids.length).length ≤ 50000000 := by
    rw [← jnC_F]
    have h1 := jnC_len (inTs it kids) kids.length (by rw [inTs_len]; exact Nat.le_refl _)
    have h2 := inTs_smL it hit kids hTs
    rw [show (inTs it kids).take kids.length = inTs it kids from by rw [← inTs_len it kids, List.take_length]] at h1
    omega
  have HAR : Hid (∀ W, Below w.heap.size w W → Calls Tryz.prog 65 #[.pointer (some ⟨b, 0, none⟩)] W fun e w' => ∃ K, e = .returned (.slice (some ⟨K, 0, none⟩) kids.length kids.length) ∧ w'.rowIs K 9 kids.length (stV (fun i => kt (inTs it kids) i 0) kids.length) ∧ Below w.heap.size w w') := fun W hW =>
    (pargs_of (fun i => kt (inTs it kids) i 0) b kd at' nn kids.length cx nm ax W hml ((hW.block b (Array.getElem?_eq_some_iff.1 hh).1).trans hh) (fun W2 hW2 i hi => by
      obtain ⟨t, ht⟩ : ∃ t, kids[i]? = some t := ⟨_, List.getElem?_eq_getElem hi⟩
      have hb2 := hW.trans (hW2.mono hW.size)
      have hkl := kid_lt kids i t ht
      have hTt := hTs.at ht
      have hl := inT_len it hit t hTt
      exact pown_of it Ctx B N ih b kd at' nn i 0 0 cx nm ax kids t W2 rkl0 (by omega) hTt (hCx _ _ hC hb2) (by omega) ((hb2.block b (Array.getElem?_eq_some_iff.1 hh).1).trans hh) (PTBs.keep (fun b hB hl => ⟨hB, hb2.block b hl⟩) _ _ _ hK) ht (by omega))).mono fun e w' ⟨K, h1, h2, h3⟩ => ⟨K, h1, h2, hW.trans (h3.mono hW.size)⟩
  have HJN : Hid (∀ (K : Nat) (W : World), W.rowIs K 9 kids.length (stV (fun i => kt (inTs it kids) i 0) kids.length) → Below w.heap.size w W → Calls Tryz.prog 39 #[.slice (some ⟨K, 0, none⟩) kids.length kids.length, .string ⟨#[44, 32]⟩] W fun e w' => e = .returned (.string (bs (jnF (fun i => kt (inTs it kids) i 0) kids.length))) ∧ Below w.heap.size w w') := fun K W hR hW =>
    (pjoin_any _ K kids.length W hml hR (by omega)).mono fun e w' ⟨h1, h2⟩ => ⟨h1, hW.trans (h2.mono hW.size)⟩
  have hjz : (bs (jnF (fun i => kt (inTs it kids) i 0) kids.length)).size ≤ 50000000 := by rw [bs_size]; exact hjl
  generalize bs (inK it kd nm nn (inTs it kids)) = RES at *
  generalize bs (jnF (fun i => kt (inTs it kids) i 0) kids.length) = S0 at *
  generalize stV (fun i => kt (inTs it kids) i 0) kids.length = FS at *
  generalize kids.length = m at *
  generalize bs nm = ns at *
  have z1 : ¬ 9223372036854775807 < ns.size + 1 := by omega
  have z2 : ¬ 9223372036854775807 < ns.size + 1 + S0.size := by omega
  have z3 : ¬ 9223372036854775807 < ns.size + 1 + S0.size + 1 := by omega
  have HKE : Hid (∀ W, Below w.heap.size w W → W.cell? ⟨b, 1, none⟩ = some (.string ns)) := fun W hW => (hW.cell (p := ⟨b, 1, none⟩) (World.block_lt_of_cell? _ _ e1)).trans e1
  have hd1 : Below w.heap.size w w.drew := (Below.refl _ _).drew
  subst hkd
  clear hh hK hTs hb hsh HKL HOW hns ih _hIt hCx hit hN hC h hml hjl hjz HB0
  go_enter Tryz.func41, Tryz.ntmps41
  go_wp2_with fail
  go_region_held3 (fun W => W.cell? ⟨b, 1, none⟩ = some (.string ns)) (exact HKE.out _ (by assumption))
    (first
      | (go_at_call 65; refine (HAR.out _ (by assumption)).mono ?_; rintro e w1 ⟨K, rfl, hR1, hb1⟩)
      | (go_at_call 39; refine (HJN.out _ _ hR1 (by assumption)).mono ?_; rintro e w2 ⟨rfl, hb2⟩))
  have HBZ := hid hb2
  go_wp2_with fail
  go_ret
  exact ⟨by rw [HE.out]; rfl, HBZ.out⟩

theorem ptx_all (it : Nat → List UInt8) (Ctx : World → Prop) (B : Nat → Prop) (hit : ∀ n, n ≤ 9223372036854775807 → (it n).length ≤ 20) (hCx : ∀ W W', Ctx W → Below W.heap.size W W' → Ctx W') (hIt : ∀ (n : Nat) (W : World), n ≤ 9223372036854775807 → Ctx W → Calls Tryz.prog 64 #[.int .i64 (n : Int)] W fun e w' => e = .returned (.string (bs (it n))) ∧ Below W.heap.size W w') : ∀ N, N ≤ 1000000 → PTX it Ctx B N := by
  intro N
  induction N with
  | zero => intro _ t x w h; have := tsz_pos t; omega
  | succ N ih =>
    intro hN t x w h hT hC hX
    have ih := ih (by omega)
    obtain ⟨kd, nm, at', nn, kids⟩ := t
    rw [tsz] at h
    rw [inT]
    have hsh := hT.1
    rcases hsh with k | k | k | k | k | k | k
    · exact ptx_num it Ctx B N hit hCx hIt (by omega) ih kd nm at' nn kids x w h hT hC hX k.1
    · exact ptx_name it Ctx B N hit hCx hIt (by omega) ih kd nm at' nn kids x w h hT hC hX k.1
    · exact ptx_call it Ctx B N hit hCx hIt (by omega) ih kd nm at' nn kids x w h hT hC hX k.1
    · exact ptx_neg it Ctx B N hit hCx hIt (by omega) ih kd nm at' nn kids x w h hT hC hX k.1
    · have hq : kd = 4 ∨ kd = 5 ∨ kd = 6 ∨ kd = 7 ∨ kd = 8 := by omega
      rcases hq with q | q | q | q | q
      · exact ptx_sign4 it Ctx B N hit hCx hIt (by omega) ih kd nm at' nn kids x w h hT hC hX q
      · exact ptx_sign5 it Ctx B N hit hCx hIt (by omega) ih kd nm at' nn kids x w h hT hC hX q
      · exact ptx_sign6 it Ctx B N hit hCx hIt (by omega) ih kd nm at' nn kids x w h hT hC hX q
      · exact ptx_sign7 it Ctx B N hit hCx hIt (by omega) ih kd nm at' nn kids x w h hT hC hX q
      · exact ptx_eq it Ctx B N hit hCx hIt (by omega) ih kd nm at' nn kids x w h hT hC hX q
    · exact ptx_let it Ctx B N hit hCx hIt (by omega) ih kd nm at' nn kids x w h hT hC hX k.1
    · by_cases h10 : kd = 10
      · exact ptx_need it Ctx B N hit hCx hIt (by omega) ih kd nm at' nn kids x w h hT hC hX h10
      · exact ptx_if it Ctx B N hit hCx hIt (by omega) ih kd nm at' nn kids x w h hT hC hX (by omega)

end Go.Proofs.YthemehdcakimgaiGreatDoor
