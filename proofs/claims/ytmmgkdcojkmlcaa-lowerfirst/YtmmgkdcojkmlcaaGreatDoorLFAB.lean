/- Package source: bytes and words. strings.IndexByte, HasPrefix, Clone: laid for this program. Package source: words and signs. Package source: words of the language, signs. Package source: blanks, the next token. strconv.Atoi: laid for this program. A region that draws its order: an operation that yields its value in every world of a kind, and for which every store of the region waits, may be taken first. Own law, after the shape of the library's: what is held need not hold behind the stores. -/
import Derived.Test.YtmmgkdcojkmlcaaGreatDoorLFAA
import Derived.Test.YtmmgkdcojkmlcaaGreatDoorFld
import Derived.Lib.Strings
import Derived.Shelf.Small.Strs
import Derived.Shelf.Strings.Prefix
import Derived.Shelf.LaysM
import Derived.Shelf.Strconv.Clone
import Derived.Test.YtmmgkdcojkmlcaaGreatDoorProg
import Derived.Deep.QuietTactic
import Derived.BigQuiet
import Derived.StillTailTactics
import Derived.Shelf.Strconv.AtoiAll
import Derived.OrdersHeld
import Derived.RegionTactic
namespace Go.Proofs.YtmmgkdcojkmlcaaGreatDoor
open Go.RowKit

/-- a string of bytes -/
def bs (l : List UInt8) : ByteArray := ⟨l.toArray⟩
theorem bs_size (l : List UInt8) : (bs l).size = l.length := by simp [bs, ByteArray.size]
theorem bs_list (l : List UInt8) : (bs l).toList = l := by rw [Lib.toList_data]; simp [bs]
theorem bs_of (s : ByteArray) : bs s.data.toList = s := by simp [bs]
theorem bs_get (l : List UInt8) (i : Nat) (h : i < (bs l).size) : (bs l)[i] = l[i]'(by rw [bs_size] at h; exact h) := by simp [bs, ByteArray.getElem_eq_getElem_data]
theorem bs_ext (l : List UInt8) (a b : Nat) : (bs l).extract a b = bs ((l.take b).drop a) := by
  apply ByteArray.ext
  simp [bs, ByteArray.data_extract, List.drop_take]
theorem bs_inj {l m : List UInt8} (h : bs l = bs m) : l = m := by
  have := congrArg ByteArray.toList h
  rwa [bs_list, bs_list] at this

theorem isdigit_any (c : UInt8) (w : World) : Calls Tryz.prog 94 #[.int .u8 (c.toNat : Int)] w fun e w' => e = .returned (.bool (isDg c)) ∧ w' = w := by
  have e : isDg c = (decide (48 ≤ (c.toNat : Int)) && decide ((c.toNat : Int) ≤ 57)) := by
    unfold isDg
    rw [Bool.eq_iff_iff]
    simp [UInt8.le_iff_toNat_le]
    omega
  rw [e]
  generalize (c.toNat : Int) = m
  by_cases h1 : 48 ≤ m
  · by_cases h2 : m ≤ 57
    all_goals
      go_enter Tryz.func94, Tryz.ntmps94
      go_wp2_with fail
      go_ret
      simp
      try omega
  · go_enter Tryz.func94, Tryz.ntmps94
    go_wp2_with fail
    go_ret
    simp
    omega
set_option maxHeartbeats 400000 in
theorem isletter_any (c : UInt8) (w : World) : Calls Tryz.prog 93 #[.int .u8 (c.toNat : Int)] w fun e w' => e = .returned (.bool (isLt c)) ∧ w' = w := by
  have e : isLt c = ((decide (65 ≤ (c.toNat : Int)) && decide ((c.toNat : Int) ≤ 90)) || (decide (97 ≤ (c.toNat : Int)) && decide ((c.toNat : Int) ≤ 122))) := by
    unfold isLt
    rw [Bool.eq_iff_iff]
    simp [UInt8.le_iff_toNat_le]
    omega
  rw [e]
  generalize (c.toNat : Int) = m
  by_cases h1 : 97 ≤ m
  · by_cases h2 : m ≤ 122
    · go_enter Tryz.func93, Tryz.ntmps93
      go_wp2_with fail
      go_ret
      simp
      try omega
    · have h3 : 65 ≤ m := by omega
      have h4 : ¬ m ≤ 90 := by omega
      go_enter Tryz.func93, Tryz.ntmps93
      go_wp2_with fail
      go_ret
      simp
      try omega
  · by_cases h3 : 65 ≤ m
    · by_cases h4 : m ≤ 90
      all_goals
        go_enter Tryz.func93, Tryz.ntmps93
        go_wp2_with fail
        go_ret
        simp
        try omega
    · go_enter Tryz.func93, Tryz.ntmps93
      go_wp2_with fail
      go_ret
      simp
      try omega

end Go.Proofs.YtmmgkdcojkmlcaaGreatDoor

namespace Go.Proofs
open Go.Shelf

def Tryz.lays137_ren : Go.Shelf.Ren := ⟨fun | 137 => 108 | 217 => 114 | 266 => 116 | n => n, fun | 9 => 9 | 5 => 5 | 3 => 3 | n => n, fun | n => n⟩
theorem Tryz.lays137 : Go.Proofs.Lays.n137 Tryz.prog Tryz.lays137_ren := {
  mixed := by kernel_rfl
  f137 := Tryz.func108.trans (congrArg some (by kernel_rfl))
  f217 := Tryz.func114.trans (congrArg some (by kernel_rfl))
  f266 := Tryz.func116.trans (congrArg some (by kernel_rfl))
  t3 := Tryz.underlying3
  a3 := Tryz.isAgg3
  z3 := Tryz.sizeOf3
  v3 := Tryz.zeroValue3
  t5 := Tryz.underlying5
  a5 := Tryz.isAgg5
  z5 := Tryz.sizeOf5
  v5 := Tryz.zeroValue5
  t9 := Tryz.underlying9
  a9 := Tryz.isAgg9
  z9 := Tryz.sizeOf9
  v9 := Tryz.zeroValue9 }
open Go.RowKit in
theorem Tryz.strings_IndexByte (s : ByteArray) (c : Int) (w : World) :
    Calls Tryz.prog 108 #[.string s, .int .u8 c] w fun e w' => e = .returned (.int .i64 (Lib.indexByte s.data.toList c.toNat.toUInt8)) ∧ w' = w := Any.strings_IndexByte Tryz.lays137 s c w
def Tryz.laysM316_ren : Go.Shelf.Ren := ⟨fun | 316 => 110 | n => n, fun | 9 => 9 | 3 => 3 | 4 => 4 | 37 => 204 | 0 => 0 | 127 => 205 | 5 => 5 | n => n, fun | n => n⟩
theorem Tryz.laysM316 : Go.Proofs.LaysM.n316 Tryz.prog Tryz.laysM316_ren := {
  mixed := by kernel_rfl
  f316 := Tryz.func110.trans (congrArg some (by kernel_rfl))
  t0 := Tryz.underlying0
  a0 := Tryz.isAgg0
  z0 := Tryz.sizeOf0
  v0 := Tryz.zeroValue0
  t3 := Tryz.underlying3
  a3 := Tryz.isAgg3
  z3 := Tryz.sizeOf3
  v3 := Tryz.zeroValue3
  t4 := Tryz.underlying4
  a4 := Tryz.isAgg4
  z4 := Tryz.sizeOf4
  v4 := Tryz.zeroValue4
  t9 := Tryz.underlying9
  a9 := Tryz.isAgg9
  z9 := Tryz.sizeOf9
  v9 := Tryz.zeroValue9
  t37 := Tryz.underlying204
  a37 := Tryz.isAgg204
  z37 := Tryz.sizeOf204
  v37 := Tryz.zeroValue204
  t127 := Tryz.underlying205
  a127 := Tryz.isAgg205
  z127 := Tryz.sizeOf205
  v127 := Tryz.zeroValue205
  t5 := Tryz.underlying5
  a5 := Tryz.isAgg5
  z5 := Tryz.sizeOf5
  v5 := Tryz.zeroValue5
  i0 := by kernel_rfl
  i3 := by kernel_rfl
  i4 := by kernel_rfl
  i5 := by kernel_rfl
  i9 := by kernel_rfl
  i37 := by kernel_rfl
  i127 := by kernel_rfl }
open Go.RowKit in
theorem Tryz.stringslite_Clone (s : ByteArray) (w : World) (hlim : s.size ≤ 281474976710656) :
    Calls Tryz.prog 110 #[.string s] w fun e w' => e = .returned (.string s) ∧ Below w.heap.size w w' := Any.stringslite_Clone Tryz.laysM316 s w hlim
def Tryz.lays99_ren : Go.Shelf.Ren := ⟨fun | 99 => 96 | 206 => 109 | n => n, fun | 9 => 9 | 4 => 4 | 3 => 3 | n => n, fun | n => n⟩
theorem Tryz.lays99 : Go.Proofs.Lays.n99 Tryz.prog Tryz.lays99_ren := {
  mixed := by kernel_rfl
  f99 := Tryz.func96.trans (congrArg some (by kernel_rfl))
  f206 := Tryz.func109.trans (congrArg some (by kernel_rfl))
  t3 := Tryz.underlying3
  a3 := Tryz.isAgg3
  z3 := Tryz.sizeOf3
  v3 := Tryz.zeroValue3
  t4 := Tryz.underlying4
  a4 := Tryz.isAgg4
  z4 := Tryz.sizeOf4
  v4 := Tryz.zeroValue4
  t9 := Tryz.underlying9
  a9 := Tryz.isAgg9
  z9 := Tryz.sizeOf9
  v9 := Tryz.zeroValue9 }
open Go.RowKit Go.Lib in
theorem Tryz.strings_HasPrefix (s p : ByteArray) (w : World) :
    Calls Tryz.prog 96 #[.string s, .string p] w fun e w' => e = .returned (.bool (Lib.hasPrefix s.data.toList p.data.toList)) ∧ w' = w := Any.strings_HasPrefix Tryz.lays99 s p w

end Go.Proofs

namespace Go.Proofs.YtmmgkdcojkmlcaaGreatDoor
open Go.RowKit

/-- the bytes of a string -/
def by' (s : ByteArray) : List UInt8 := s.data.toList
theorem by_bs (l : List UInt8) : by' (bs l) = l := by simp [by', bs]
theorem bs_by (s : ByteArray) : bs (by' s) = s := bs_of s
theorem by_len (s : ByteArray) : (by' s).length = s.size := Array.length_toList
theorem by_get (s : ByteArray) (k : Nat) (h : k < s.size) : (by' s)[k]'(by rw [by_len]; exact h) = s[k] := Array.getElem_toList _
theorem by_getD (s : ByteArray) (k : Nat) (h : k < s.size) : (by' s).getD k 0 = s[k] := by
  rw [← by_get s k h, List.getD_eq_getElem?_getD, List.getElem?_eq_getElem (by rw [by_len]; exact h)]
  rfl
theorem by_list (s : ByteArray) : s.toList = by' s := Lib.toList_data s
theorem by_ext (s : ByteArray) (a b : Nat) : by' (s.extract a b) = ((by' s).drop a).take (b - a) := by
  have := bs_ext (by' s) a b
  rw [bs_by] at this
  rw [this, by_bs, List.drop_take]
theorem by_inj {s t : ByteArray} (h : by' s = by' t) : s = t := by rw [← bs_by s, h, bs_by]

theorem tw_stop {p : UInt8 → Bool} : ∀ (l : List UInt8) (k : Nat), k < l.length → (∀ j, j < k → p (l.getD j 0) = true) → p (l.getD k 0) = false → (l.takeWhile p).length = k
  | [], _, h, _, _ => by simp at h
  | c :: r, 0, _, _, h => by
    have : p c = false := h
    simp [this]
  | c :: r, k + 1, h, ha, hn => by
    have h0 : p c = true := ha 0 (by omega)
    have ih := tw_stop r k (by simpa using h) (fun j hj => ha (j + 1) (by omega)) hn
    simp [h0, ih]
theorem tw_all {p : UInt8 → Bool} : ∀ (l : List UInt8), (∀ j, j < l.length → p (l.getD j 0) = true) → (l.takeWhile p).length = l.length
  | [], _ => rfl
  | c :: r, ha => by
    have h0 : p c = true := ha 0 (by simp)
    have ih := tw_all r (fun j hj => ha (j + 1) (by simpa using hj))
    simp [h0, ih]
theorem ib_tw : ∀ (l : List UInt8) (c : UInt8), (Lib.indexByte l c = -1 ∧ (l.takeWhile (· != c)).length = l.length) ∨ (0 ≤ Lib.indexByte l c ∧ Lib.indexByte l c = (l.takeWhile (· != c)).length)
  | [], _ => .inl ⟨rfl, rfl⟩
  | b :: l, c => by
    by_cases h : b = c
    · subst h
      exact .inr (by simp [Lib.indexByte])
    · have h1 : (b == c) = false := by simpa using h
      have h2 : (b != c) = true := by simp [h]
      rcases ib_tw l c with ⟨e1, e2⟩ | ⟨e1, e2⟩
      · refine .inl ?_
        simp [Lib.indexByte, h1, e1, h2, e2]
      · refine .inr ?_
        have h3 : ¬ Lib.indexByte l c = -1 := by omega
        simp [Lib.indexByte, h1, h2, h3]
        omega
theorem lineLen_any (s : ByteArray) (w : World) : Calls Tryz.prog 92 #[.string s] w fun e w' => e = .returned (.int .i64 (((by' s).takeWhile (· != 10)).length : Nat)) ∧ w' = w := by
  have HI := hid (Tryz.strings_IndexByte s 10 w)
  have hc : Lib.indexByte s.data.toList (10 : Int).toNat.toUInt8 = Lib.indexByte (by' s) 10 := rfl
  rw [hc] at HI
  have HT := hid (ib_tw (by' s) 10)
  generalize Lib.indexByte (by' s) 10 = n at HI HT
  have HL := hid (by_len s)
  generalize ((by' s).takeWhile (· != 10)).length = m at HT
  clear hc
  rcases HT.out with ⟨rfl, h2⟩ | ⟨h1, h2⟩
  · have HM : Hid (m = s.size) := h2.trans HL.out
    clear h2
    go_enter Tryz.func92, Tryz.ntmps92
    go_wp2_with fail
    refine HI.out.mono ?_
    rintro e w1 ⟨rfl, rfl⟩
    go_wp2_with fail
    go_ret
    exact ⟨by rw [HM.out]; rfl, rfl⟩
  · have HM := hid h2
    clear h2
    go_enter Tryz.func92, Tryz.ntmps92
    go_wp2_with fail
    refine HI.out.mono ?_
    rintro e w1 ⟨rfl, rfl⟩
    go_wp2_with fail
    go_ret
    exact ⟨by rw [HM.out]; rfl, rfl⟩
set_option maxHeartbeats 400000 in
theorem wordLen_any (s : ByteArray) (w : World) (hs : s.size ≤ 1000000) : Calls Tryz.prog 75 #[.string s] w fun e w' => e = .returned (.int .i64 (((by' s).takeWhile inWd).length : Nat)) ∧ w' = w := by
  have hnot : ∀ (x : Bool) (w : World), (Op.unary .not (.bool x)).run Tryz.prog w = .ok (.bool (!x)) w := fun _ _ => rfl
  have HIL := hid isletter_any
  have HID := hid isdigit_any
  obtain ⟨r, hr⟩ : ∃ r, r = ((by' s).takeWhile inWd).length := ⟨_, rfl⟩
  have HR := hid hr
  rw [← hr]
  clear hr
  go_enter Tryz.func75, Tryz.ntmps75
  go_wp2_with fail
  go_loop [7] (fun i => ∃ k : Nat, k ≤ s.size ∧ i = .int .i64 k ∧ Hid (∀ j, j < k → inWd ((by' s).getD j 0) = true)) (fun i => s.size - (intOf i).toNat)
  case atStart => exact ⟨0, Nat.zero_le _, rfl, fun j hj => by omega⟩
  case round =>
    obtain ⟨k, hk, rfl, HA⟩ := hrel
    by_cases hlt : k < s.size
    · have hlt2 : (k : Int) < (s.size : Int) := by omega
      have hwr : IntKind.i64.wrap ((k : Int) + 1) = (k : Int) + 1 := by rw [IntKind.wrap_i64]; omega
      obtain ⟨c, hc⟩ : ∃ c, s[k] = c := ⟨_, rfl⟩
      have HG : Hid ((by' s).getD k 0 = c) := (by_getD s k hlt).trans hc
      by_cases h1 : isLt c = true
      · have HN : Hid (inWd c = true) := by unfold Hid inWd; rw [h1]; simp
        go_wp2_with fail
        refine (HIL.out c w).mono ?_
        rintro e w1 ⟨rfl, rfl⟩
        rw [h1]
        go_wp2_with fail
        go_round
        case rel => exact ⟨k + 1, by omega, by go_num, fun j hj => by
            rcases Nat.lt_or_ge j k with g | g
            · exact HA.out j g
            · obtain rfl : j = k := by omega
              rw [HG.out]; exact HN.out⟩
        case measure => simp [intOf]; omega
      · have h1' : isLt c = false := by simpa using h1
        clear h1
        by_cases h2 : isDg c = true
        · have HN : Hid (inWd c = true) := by unfold Hid inWd; rw [h2]; simp
          go_wp2_with fail
          refine (HIL.out c w).mono ?_
          rintro e w1 ⟨rfl, rfl⟩
          rw [h1']
          go_wp2_with fail
          refine (HID.out c w1).mono ?_
          rintro e w2 ⟨rfl, rfl⟩
          rw [h2]
          go_wp2_with fail
          go_round
          case rel => exact ⟨k + 1, by omega, by go_num, fun j hj => by
              rcases Nat.lt_or_ge j k with g | g
              · exact HA.out j g
              · obtain rfl : j = k := by omega
                rw [HG.out]; exact HN.out⟩
          case measure => simp [intOf]; omega
        · have h2' : isDg c = false := by simpa using h2
          clear h2
          by_cases h3 : (c.toNat : Int) = 95
          · have HN : Hid (inWd c = true) := by
              unfold Hid inWd
              have : c = 95 := by apply UInt8.toNat_inj.1; show c.toNat = 95; omega
              rw [this]; decide
            have h3b : ((c.toNat : Int) != 95) = false := by rw [h3]; rfl
            clear h3
            go_wp2_with fail
            refine (HIL.out c w).mono ?_
            rintro e w1 ⟨rfl, rfl⟩
            rw [h1']
            go_wp2_with fail
            refine (HID.out c w1).mono ?_
            rintro e w2 ⟨rfl, rfl⟩
            rw [h2']
            go_wp2_with fail
            go_round
            case rel => exact ⟨k + 1, by omega, by go_num, fun j hj => by
                rcases Nat.lt_or_ge j k with g | g
                · exact HA.out j g
                · obtain rfl : j = k := by omega
                  rw [HG.out]; exact HN.out⟩
            case measure => simp [intOf]; omega
          · have HN : Hid (inWd c = false) := by
              unfold Hid inWd
              have : (c == 95) = false := by
                simp
                intro e
                subst e
                exact h3 rfl
              rw [h1', h2', this]; rfl
            have h3b : ((c.toNat : Int) != 95) = true := by simp [h3]
            go_wp2_with fail
            refine (HIL.out c w).mono ?_
            rintro e w1 ⟨rfl, rfl⟩
            rw [h1']
            go_wp2_with fail
            refine (HID.out c w1).mono ?_
            rintro e w2 ⟨rfl, rfl⟩
            rw [h2']
            go_wp2_with fail
            go_ret
            have hl := by_len s
            exact ⟨by rw [HR.out, tw_stop (by' s) k (by omega) HA.out (by rw [HG.out]; exact HN.out)]; rfl, rfl⟩
    · obtain rfl : k = s.size := by omega
      have hlt2 : ¬ (s.size : Int) < (s.size : Int) := by omega
      go_wp2_with fail
      go_ret
      have hl := by_len s
      exact ⟨by rw [HR.out, tw_all (by' s) (fun j hj => HA.out j (by omega)), hl]; rfl, rfl⟩

end Go.Proofs.YtmmgkdcojkmlcaaGreatDoor

namespace Go.Proofs.YtmmgkdcojkmlcaaGreatDoor
open Go.RowKit

theorem ret_i {a b : Int} (h : a = b) : Ending.returned (.int .i64 a) = .returned (.int .i64 b) := by rw [h]
theorem langWord_any (s : ByteArray) (w : World) : Calls Tryz.prog 95 #[.string s] w fun e w' => e = .returned (.int .i64 (kwd (by' s) : Nat)) ∧ w' = w := by
  rw [← by_list]
  go_enter Tryz.func95, Tryz.ntmps95
  go_wp2_with fail
  all_goals
    go_ret
    refine ⟨ret_i ?_, rfl⟩
    simp_all [kwd]
theorem all_no {p : UInt8 → Bool} (l : List UInt8) (k : Nat) (hk : k < l.length) (h : p (l.getD k 0) = false) : l.all p = false := by
  rw [List.all_eq_false]
  refine ⟨l[k], List.getElem_mem hk, ?_⟩
  rw [List.getD_eq_getElem?_getD, List.getElem?_eq_getElem hk] at h
  simpa using h
theorem all_yes {p : UInt8 → Bool} (l : List UInt8) (h : ∀ j, j < l.length → p (l.getD j 0) = true) : l.all p = true := by
  rw [List.all_eq_true]
  intro x hx
  obtain ⟨k, hk, rfl⟩ := List.getElem_of_mem hx
  have := h k hk
  rw [List.getD_eq_getElem?_getD, List.getElem?_eq_getElem hk] at this
  exact this
set_option maxHeartbeats 1000000 in
theorem wordKind_any (s : ByteArray) (w : World) (hs : s.size ≤ 1000000) (h0 : 0 < s.size) : Calls Tryz.prog 76 #[.string s] w fun e w' => e = .returned (.int .i64 (wkd (by' s) : Nat)) ∧ w' = w := by
  have hnot : ∀ (x : Bool) (w : World), (Op.unary .not (.bool x)).run Tryz.prog w = .ok (.bool (!x)) w := fun _ _ => rfl
  have HIL := hid isletter_any
  have HID := hid isdigit_any
  have HLW := hid (langWord_any s)
  obtain ⟨c, hc⟩ : ∃ c, s[0] = c := ⟨_, rfl⟩
  have HG : Hid ((by' s).getD 0 0 = c) := (by_getD s 0 h0).trans hc
  have HL := hid (by_len s)
  have HW : Hid (∃ r, by' s = c :: r) := by
    unfold Hid
    have hg := HG.out
    have hl := by_len s
    cases hb : by' s with
    | nil => rw [hb] at hl; simp at hl; omega
    | cons x r => rw [hb] at hg; exact ⟨r, by rw [show x = c from hg]⟩
  have h00 : (0 : Int) < (s.size : Int) := by omega
  by_cases h1 : isLt c = true
  · have HK : Hid (wkd (by' s) = kwd (by' s)) := by
      obtain ⟨r, hr⟩ := HW.out
      unfold Hid
      rw [hr, wkd, if_pos h1]
    go_enter Tryz.func76, Tryz.ntmps76
    go_wp2_with fail
    refine (HIL.out c w).mono ?_
    rintro e w1 ⟨rfl, rfl⟩
    rw [h1]
    go_wp2_with fail
    refine (HLW.out w1).mono ?_
    rintro e w2 ⟨rfl, rfl⟩
    go_wp2_with fail
    go_ret
    exact ⟨ret_i (by rw [HK.out]), rfl⟩
  · have h1' : isLt c = false := by simpa using h1
    by_cases h2 : ¬ by' s = [48] ∧ c = 48
    · have HK : Hid (wkd (by' s) = 0) := by
        obtain ⟨r, hr⟩ := HW.out
        unfold Hid
        have h5 := h2.1
        rw [hr, wkd, if_neg (by rw [h1']; simp), if_pos ⟨h2.2, fun e => h5 (by rw [hr, e, h2.2])⟩]
      have t1 : (s.toList == [48]) = false := by rw [by_list]; simpa using h2.1
      have t2 : ((c.toNat : Int) == 48) = true := by rw [h2.2]; rfl
      clear h2 h1
      go_enter Tryz.func76, Tryz.ntmps76
      go_wp2_with fail
      refine (HIL.out c w).mono ?_
      rintro e w1 ⟨rfl, rfl⟩
      rw [h1']
      go_wp2_with fail
      go_ret
      exact ⟨ret_i (by rw [HK.out]; rfl), rfl⟩
    · have HK : Hid (wkd (by' s) = if (by' s).all isDg then 3 else 0) := by
        obtain ⟨r, hr⟩ := HW.out
        unfold Hid
        rw [hr] at h2 ⊢
        rw [wkd, if_neg (by rw [h1']; simp), if_neg (fun h5 => h2 ⟨fun e => h5.2 (by injection e), h5.1⟩)]
      have HT : Hid ((s.toList == [48]) = true ∨ ((s.toList == [48]) = false ∧ ((c.toNat : Int) == 48) = false)) := by
        unfold Hid
        rw [by_list]
        by_cases h5 : by' s = [48]
        · exact .inl (by simpa using h5)
        · refine .inr ⟨by simpa using h5, ?_⟩
          have h6 : ¬ c = 48 := fun e => h2 ⟨h5, e⟩
          have h7 : ¬ (c.toNat : Int) = 48 := fun e => h6 (by apply UInt8.toNat_inj.1; show c.toNat = 48; omega)
          simpa using h7
      clear h2 h1
      rcases HT.out with t1 | ⟨t1, t2⟩
      all_goals
        clear HT
        go_enter Tryz.func76, Tryz.ntmps76
        go_wp2_with fail
        refine (HIL.out c w).mono ?_
        rintro e w1 ⟨rfl, rfl⟩
        rw [h1']
        go_wp2_with fail
        go_loop [18] (fun i => ∃ k : Nat, k ≤ s.size ∧ i = .int .i64 k ∧ Hid (∀ j, j < k → isDg ((by' s).getD j 0) = true)) (fun i => s.size - (intOf i).toNat)
        case atStart => exact ⟨0, Nat.zero_le _, rfl, fun j hj => by omega⟩
        case round =>
          obtain ⟨k, hk, rfl, HA⟩ := hrel
          by_cases hlt : k < s.size
          · have hlt2 : (k : Int) < (s.size : Int) := by omega
            have hwr : IntKind.i64.wrap ((k : Int) + 1) = (k : Int) + 1 := by rw [IntKind.wrap_i64]; omega
            obtain ⟨d, hd⟩ : ∃ d, s[k] = d := ⟨_, rfl⟩
            have HGD : Hid ((by' s).getD k 0 = d) := (by_getD s k hlt).trans hd
            by_cases h2 : isDg d = true
            · go_wp2_with fail
              refine (HID.out d w1).mono ?_
              rintro e w2 ⟨rfl, rfl⟩
              rw [h2]
              go_wp2_with fail
              go_round
              case rel => exact ⟨k + 1, by omega, by go_num, fun j hj => by
                  rcases Nat.lt_or_ge j k with g | g
                  · exact HA.out j g
                  · obtain rfl : j = k := by omega
                    rw [HGD.out]; exact h2⟩
              case measure => simp [intOf]; omega
            · have h2' : isDg d = false := by simpa using h2
              clear h2
              go_wp2_with fail
              refine (HID.out d w1).mono ?_
              rintro e w2 ⟨rfl, rfl⟩
              rw [h2']
              go_wp2_with fail
              go_ret
              exact ⟨ret_i (by rw [HK.out, all_no (by' s) k (by rw [HL.out]; exact hlt) (by rw [HGD.out]; exact h2')]; rfl), rfl⟩
          · obtain rfl : k = s.size := by omega
            have hlt2 : ¬ (s.size : Int) < (s.size : Int) := by omega
            go_wp2_with fail
            go_ret
            exact ⟨ret_i (by rw [HK.out, all_yes (by' s) (fun j hj => HA.out j (by rw [HL.out] at hj; exact hj))]; rfl), rfl⟩

theorem sgn_ne (c : UInt8) (r : List UInt8) (h1 : ¬ (c = 61 ∧ r.head? = some 61)) : sgn (c :: r) = (if c = 40 then 10 else if c = 41 then 11 else if c = 44 then 12 else if c = 59 then 13 else if c = 61 then 14 else if c = 43 then 16 else if c = 45 then 17 else if c = 42 then 18 else if c = 47 then 19 else 0, 1) := by
  by_cases h2 : c = 61
  · subst h2
    cases r with
    | nil => rfl
    | cons d q =>
      have h3 : ¬ d = 61 := fun e => h1 ⟨rfl, by rw [e]; rfl⟩
      unfold sgn
      simp only [if_true]
      split
      · rename_i h4
        injection h4 with h4
        exact absurd h4 h3
      · rfl
  · unfold sgn
    simp only [if_neg h2]
set_option maxHeartbeats 1000000 in
theorem sign_any (s : ByteArray) (w : World) (h0 : 0 < s.size) : Calls Tryz.prog 77 #[.string s] w fun e w' => e = .returned (.tuple #[.int .i64 ((sgn (by' s)).1 : Nat), .int .i64 ((sgn (by' s)).2 : Nat)]) ∧ w' = w := by
  have HP := hid (Tryz.strings_HasPrefix s ⟨#[61, 61]⟩ w)
  obtain ⟨c, hc⟩ : ∃ c, s[0] = c := ⟨_, rfl⟩
  have hg : (by' s).getD 0 0 = c := (by_getD s 0 h0).trans hc
  have h00 : (0 : Int) < (s.size : Int) := by omega
  have hl := by_len s
  obtain ⟨r, hr⟩ : ∃ r, by' s = c :: r := by
    cases hb : by' s with
    | nil => rw [hb] at hl; simp at hl; omega
    | cons x r => rw [hb] at hg; exact ⟨r, by rw [show x = c from hg]⟩
  have hp : Lib.hasPrefix s.data.toList (⟨#[61, 61]⟩ : ByteArray).data.toList = decide (c = 61 ∧ r.head? = some 61) := by
    show Lib.hasPrefix (by' s) [61, 61] = _
    rw [hr, Bool.eq_iff_iff]
    cases r with
    | nil => simp [Lib.hasPrefix, List.isPrefixOf]
    | cons d q => simp [Lib.hasPrefix, List.isPrefixOf]; constructor <;> (rintro ⟨h5, h6⟩; exact ⟨h5.symm, h6.symm⟩)
  rw [hp] at HP
  rw [hr]
  clear hg hl hp hr
  by_cases h1 : c = 61 ∧ r.head? = some 61
  · rw [decide_eq_true h1] at HP
    obtain ⟨rfl, h2⟩ := h1
    obtain ⟨q, rfl⟩ : ∃ q, r = 61 :: q := by
      cases r with
      | nil => simp at h2
      | cons d q => exact ⟨q, by rw [show d = 61 from by simpa using h2]⟩
    go_enter Tryz.func77, Tryz.ntmps77
    go_wp2_with fail
    refine HP.out.mono ?_
    rintro e w1 ⟨rfl, rfl⟩
    go_wp2_with fail
    go_ret2
    exact ⟨rfl, rfl⟩
  · rw [decide_eq_false h1] at HP
    rw [sgn_ne c r h1]
    clear h1

    have hcn : ∀ k : UInt8, ((c.toNat : Int) == (k.toNat : Int)) = decide (c = k) := fun k => by
      rw [Bool.eq_iff_iff]
      simp
      exact ⟨fun h => UInt8.toNat_inj.1 (by omega), fun h => by rw [h]⟩
    have q1 : ((c.toNat : Int) == 40) = decide (c = 40) := hcn 40
    have q2 : ((c.toNat : Int) == 41) = decide (c = 41) := hcn 41
    have q3 : ((c.toNat : Int) == 44) = decide (c = 44) := hcn 44
    have q4 : ((c.toNat : Int) == 59) = decide (c = 59) := hcn 59
    have q5 : ((c.toNat : Int) == 61) = decide (c = 61) := hcn 61
    have q6 : ((c.toNat : Int) == 43) = decide (c = 43) := hcn 43
    have q7 : ((c.toNat : Int) == 45) = decide (c = 45) := hcn 45
    have q8 : ((c.toNat : Int) == 42) = decide (c = 42) := hcn 42
    have q9 : ((c.toNat : Int) == 47) = decide (c = 47) := hcn 47
    clear hcn
    go_enter Tryz.func77, Tryz.ntmps77
    go_wp2_with fail
    refine HP.out.mono ?_
    rintro e w1 ⟨rfl, rfl⟩
    go_wp2_with fail
    all_goals go_ret2
    all_goals simp_all

end Go.Proofs.YtmmgkdcojkmlcaaGreatDoor

namespace Go.Proofs.YtmmgkdcojkmlcaaGreatDoor
open Go.RowKit

theorem drop_cons (L : List UInt8) (k : Nat) (h : k < L.length) : L.drop k = L.getD k 0 :: L.drop (k + 1) := by
  rw [List.drop_eq_getElem_cons h, List.getD_eq_getElem?_getD, List.getElem?_eq_getElem h]
  rfl
theorem blank_sp {c : UInt8} (r : List UInt8) (h : c = 32 ∨ c = 9 ∨ c = 10) : blank (c :: r) = blank r := by
  rw [blank, if_pos (by rcases h with rfl | rfl | rfl <;> rfl)]
theorem blank_rem (r : List UInt8) : blank (35 :: r) = blank (r.dropWhile (· != 10)) := by
  rw [blank, if_neg (by decide), if_pos (by decide)]
theorem blank_no {c : UInt8} (r : List UInt8) (h1 : ¬ c = 32) (h2 : ¬ c = 9) (h3 : ¬ c = 10) (h4 : ¬ c = 35) : blank (c :: r) = c :: r := by
  rw [blank, if_neg (by simp [h1, h2, h3]), if_neg (by simpa using h4)]
theorem drop_tw (p : UInt8 → Bool) : ∀ r : List UInt8, r.drop (r.takeWhile p).length = r.dropWhile p
  | [] => rfl
  | c :: r => by
    cases h : p c with
    | true => simp [h, drop_tw p r]
    | false => simp [h]
theorem u8_eq (c k : UInt8) : ((c.toNat : Int) == (k.toNat : Int)) = decide (c = k) := by
  rw [Bool.eq_iff_iff]
  simp
  exact ⟨fun h => UInt8.toNat_inj.1 (by omega), fun h => by rw [h]⟩
/-- where the first token from a place on begins -/
def pst (L : List UInt8) (a : Nat) : Nat := L.length - (blank (L.drop a)).length

set_option maxHeartbeats 1000000 in
theorem pastBlanks_any (s : ByteArray) (a : Nat) (w : World) (hs : s.size ≤ 1000000) (ha : a ≤ s.size) : Calls Tryz.prog 74 #[.string s, .int .i64 (a : Int)] w fun e w' => e = .returned (.int .i64 (pst (by' s) a : Nat)) ∧ w' = w := by
  have HLL := hid lineLen_any
  obtain ⟨L, hL⟩ : ∃ L, by' s = L := ⟨_, rfl⟩
  have hl := by_len s
  rw [hL] at hl ⊢
  have HL := hid hL
  have HLN := hid hl
  clear hL hl
  go_enter Tryz.func74, Tryz.ntmps74
  go_wp2_with fail
  go_loop [1] (fun i => ∃ k : Nat, k ≤ s.size ∧ i = .int .i64 k ∧ Hid (blank (L.drop k) = blank (L.drop a))) (fun i => s.size - (intOf i).toNat)
  case atStart => exact ⟨a, ha, rfl, rfl⟩
  case round =>
    obtain ⟨k, hk, rfl, HA⟩ := hrel
    by_cases hlt : k < s.size
    · have hlt2 : (k : Int) < (s.size : Int) := by omega
      have hwr : IntKind.i64.wrap ((k : Int) + 1) = (k : Int) + 1 := by rw [IntKind.wrap_i64]; omega
      obtain ⟨c, hc⟩ : ∃ c, s[k] = c := ⟨_, rfl⟩
      have HG : Hid (L.drop k = c :: L.drop (k + 1)) := by
        unfold Hid
        rw [drop_cons L k (by rw [HLN.out]; exact hlt), ← HL.out, by_getD s k hlt, hc]
      have q1 : ((c.toNat : Int) == 32) = decide (c = 32) := u8_eq c 32
      have q2 : ((c.toNat : Int) == 9) = decide (c = 9) := u8_eq c 9
      have q3 : ((c.toNat : Int) == 10) = decide (c = 10) := u8_eq c 10
      have q4 : ((c.toNat : Int) == 35) = decide (c = 35) := u8_eq c 35
      by_cases hb : c = 32 ∨ c = 9 ∨ c = 10
      · have HN : Hid (blank (L.drop (k + 1)) = blank (L.drop a)) := by
          unfold Hid
          rw [← HA.out, HG.out, blank_sp _ hb]
        by_cases h1 : c = 32
        · rw [decide_eq_true h1] at q1
          clear hb h1 q2 q3 q4
          go_wp2_with fail
          go_round
          case rel => exact ⟨k + 1, by omega, by go_num, HN⟩
          case measure => simp [intOf]; omega
        · by_cases h2 : c = 9
          · rw [decide_eq_false h1] at q1
            rw [decide_eq_true h2] at q2
            clear hb h1 h2 q3 q4
            go_wp2_with fail
            go_round
            case rel => exact ⟨k + 1, by omega, by go_num, HN⟩
            case measure => simp [intOf]; omega
          · have h3 : c = 10 := by rcases hb with h | h | h; exact absurd h h1; exact absurd h h2; exact h
            rw [decide_eq_false h1] at q1
            rw [decide_eq_false h2] at q2
            rw [decide_eq_true h3] at q3
            clear hb h1 h2 h3 q4
            go_wp2_with fail
            go_round
            case rel => exact ⟨k + 1, by omega, by go_num, HN⟩
            case measure => simp [intOf]; omega
      · have h1 : ¬ c = 32 := fun e => hb (.inl e)
        have h2 : ¬ c = 9 := fun e => hb (.inr (.inl e))
        have h3 : ¬ c = 10 := fun e => hb (.inr (.inr e))
        rw [decide_eq_false h1] at q1
        rw [decide_eq_false h2] at q2
        rw [decide_eq_false h3] at q3
        by_cases h4 : c = 35
        · rw [decide_eq_true h4] at q4
          have HE : Hid (by' (s.extract k s.size) = L.drop k) := by
            unfold Hid
            rw [by_ext, HL.out, List.take_of_length_le (by rw [List.length_drop, HLN.out]; omega)]
          obtain ⟨m, hm⟩ : ∃ m, m = ((by' (s.extract k s.size)).takeWhile (· != 10)).length := ⟨_, rfl⟩
          have HM := hid hm
          have HCL := hid (HLL.out (s.extract k s.size) w)
          rw [← hm] at HCL
          have hmf : 0 < m ∧ k + m ≤ s.size ∧ blank (L.drop (k + m)) = blank (L.drop a) := by
            rw [hm, HE.out]
            have e1 : (List.takeWhile (· != 10) (L.drop k)).length = 1 + ((L.drop (k + 1)).takeWhile (· != 10)).length := by
              rw [HG.out, h4]
              simp
              omega
            have e2 := (List.takeWhile_sublist (l := L.drop (k + 1)) (· != (10 : UInt8))).length_le
            rw [List.length_drop, HLN.out] at e2
            refine ⟨by omega, by omega, ?_⟩
            have e3 : L.drop (k + (1 + ((L.drop (k + 1)).takeWhile (· != 10)).length)) = (L.drop (k + 1)).drop ((L.drop (k + 1)).takeWhile (· != 10)).length := by
              rw [List.drop_drop]
              congr 1
              omega
            rw [e1, e3, drop_tw, ← HA.out, HG.out, h4, blank_rem]
          clear hb h1 h2 h3 h4 hm
          obtain ⟨hm0, hm1, hm2⟩ := hmf
          have HN := hid hm2
          clear hm2
          have hwk : IntKind.i64.wrap ((k : Int) + (m : Int)) = (k : Int) + (m : Int) := by rw [IntKind.wrap_i64]; omega
          go_wp2_with fail
          refine HCL.out.mono ?_
          rintro e w1 ⟨rfl, rfl⟩
          go_wp2_with fail
          go_round
          case rel => exact ⟨k + m, by omega, by go_num, HN⟩
          case measure => simp [intOf]; omega
        · rw [decide_eq_false h4] at q4
          have HN : Hid (pst L a = k) := by
            unfold Hid pst
            rw [← HA.out, HG.out, blank_no _ h1 h2 h3 h4, ← HG.out, List.length_drop, HLN.out]
            omega
          clear hb h1 h2 h3 h4
          go_wp2_with fail
          go_ret
          exact ⟨ret_i (by rw [HN.out]), rfl⟩
    · obtain rfl : k = s.size := by omega
      have hlt2 : ¬ (s.size : Int) < (s.size : Int) := by omega
      have HN : Hid (pst L a = s.size) := by
        unfold Hid pst
        rw [← HA.out, List.drop_of_length_le (by rw [HLN.out]; exact Nat.le_refl _), blank, HLN.out]
        simp
      go_wp2_with fail
      go_ret
      exact ⟨ret_i (by rw [HN.out]), rfl⟩

theorem pst_le (L : List UInt8) (a : Nat) : pst L a ≤ L.length := Nat.sub_le _ _
theorem blank_suf : ∀ (n : Nat) (l : List UInt8), l.length ≤ n → blank l <:+ l
  | _, [], _ => by rw [blank]; exact List.suffix_refl _
  | 0, c :: r, h => by simp at h
  | n + 1, c :: r, h => by
    rw [blank]
    simp at h
    have h2 := (List.dropWhile_sublist (l := r) (· != 10)).length_le
    split
    · exact (blank_suf n r h).trans (List.suffix_cons _ _)
    · split
      · exact ((blank_suf n (r.dropWhile (· != 10)) (by omega)).trans (List.dropWhile_suffix _)).trans (List.suffix_cons _ _)
      · exact List.suffix_refl _
theorem drop_pst (L : List UInt8) (a : Nat) : L.drop (pst L a) = blank (L.drop a) := by
  have h1 := blank_suf _ (L.drop a) (Nat.le_refl _)
  have h2 := h1.trans (List.drop_suffix a L)
  obtain ⟨t, ht⟩ := h2
  unfold pst
  have hl : L.length = t.length + (blank (L.drop a)).length := by
    have := congrArg List.length ht
    rw [List.length_append] at this
    omega
  rw [hl, Nat.add_sub_cancel]
  generalize blank (L.drop a) = b at ht
  rw [← ht, List.drop_left]
/-- a token in memory -/
def tokv (t : Tok) : Value := .agg #[.int .i64 (t.kind : Int), .int .i64 (t.at' : Int), .string (bs t.text)]

set_option maxRecDepth 100000 in
set_option maxHeartbeats 1000000 in
theorem tokenAt_any (s : ByteArray) (a : Nat) (w : World) (hs : s.size ≤ 1000000) (ha : a ≤ s.size) : Calls Tryz.prog 55 #[.string s, .int .i64 (a : Int)] w fun e w' => e = .returned (tokv (tok (by' s) a)) ∧ Below w.heap.size w w' := by
  have HPB := hid (fun W => pastBlanks_any s a W hs ha)
  obtain ⟨L, hL⟩ : ∃ L, by' s = L := ⟨_, rfl⟩
  have hl := by_len s
  rw [hL] at hl HPB ⊢
  have HL := hid hL
  have HLN := hid hl
  obtain ⟨k, hk⟩ : ∃ k, pst L a = k := ⟨_, rfl⟩
  have hkl : k ≤ s.size := by rw [← hk, ← hl]; exact pst_le L a
  obtain ⟨r, hr⟩ : ∃ r, r = s.extract k s.size := ⟨_, rfl⟩
  have hbr : by' r = blank (L.drop a) := by rw [hr, by_ext, hL, List.take_of_length_le (by rw [List.length_drop, hl]; omega), ← hk, drop_pst]
  have hrl : r.size = s.size - k := by rw [← by_len r, hbr, ← drop_pst, hk, List.length_drop, hl]
  rw [hk] at HPB
  have htk : tok L a = tokR L.length (by' r) := by rw [hbr]; rfl
  have HTK := hid htk
  have HHK : Hid (L.length - (by' r).length = k) := by unfold Hid; rw [by_len, hrl, hl]; omega
  have hkk : (k : Int) ≤ (s.size : Int) := by omega
  replace hr := hr.symm
  obtain ⟨V, hV⟩ : ∃ V, V = w.alloc (.cells #[.int .i64 0, .int .i64 0, .string ⟨#[]⟩] 143) := ⟨_, rfl⟩
  clear hL hl ha hk hbr htk
  by_cases hz : by' r = []
  · have HTT : Hid (tok L a = ⟨1, k, []⟩) := by
      have h9 := HHK.out
      unfold Hid
      rw [HTK.out, tokR, if_pos hz]
      rw [hz] at h9
      simp at h9
      rw [h9]
    have t1 : (r.toList == []) = true := by rw [by_list, hz]; rfl
    rw [HTT.out]
    go_enter Tryz.func55, Tryz.ntmps55
    go_wp2_with fail
    refine (HPB.out _).mono ?_
    rintro e w1 ⟨rfl, rfl⟩
    go_wp2_with fail
    refine bodyPost_ret (results_cell_row rfl _ _ w.heap.size 143 #[.int .i64 1, .int .i64 (k : Int), .string ⟨#[]⟩] (0, 0) _ rfl (heap_alloc_new w _) Tryz.underlying143 rfl (by kernel_rfl)) rfl ?_
    exact ⟨rfl, (Below.refl _ _).alloc (Nat.le_refl _) _⟩
  · have t1 : (r.toList == []) = false := by rw [by_list]; simpa using hz
    have hr0 : 0 < r.size := by
      rw [← by_len]
      exact List.length_pos_iff.2 hz
    obtain ⟨n, hn⟩ : ∃ n, ((by' r).takeWhile inWd).length = n := ⟨_, rfl⟩
    have HWL := hid (fun W => wordLen_any r W (by omega))
    rw [hn] at HWL
    have hnl : n ≤ r.size := by
      rw [← hn, ← by_len]
      exact (List.takeWhile_sublist _).length_le
    have hkn : (n : Int) ≤ (r.size : Int) := by omega
    have htx : by' (r.extract 0 n) = (by' r).takeWhile inWd := by
      rw [by_ext, ← hn]
      simp
      exact (List.prefix_iff_eq_take.1 (List.takeWhile_prefix inWd)).symm
    by_cases h0 : 0 < n
    · have HTT : Hid (tok L a = ⟨wkd (by' (r.extract 0 n)), k, by' (r.extract 0 n)⟩) := by
        unfold Hid
        rw [HTK.out, tokR, if_neg hz, if_pos (by intro e; rw [e] at hn; simp at hn; omega), HHK.out, htx]
      have HWK := hid (fun W => wordKind_any (r.extract 0 n) W (by rw [← by_len, htx, hn]; omega) (by rw [← by_len, htx, hn]; exact h0))
      rw [HTT.out]
      have h0i : (0 : Int) < (n : Int) := by omega
      obtain ⟨x, hx⟩ : ∃ x, r.extract 0 n = x := ⟨_, rfl⟩
      rw [hx] at HWK ⊢
      have hmx : Tryz.prog.follows .mixedOrders = true := by kernel_rfl
      clear hn htx hz hr0 h0 hrl
      obtain ⟨wk, hwk⟩ : ∃ wk, wkd (by' x) = wk := ⟨_, rfl⟩
      rw [hwk] at HWK ⊢
      clear hwk
      have hsx : bs (by' x) = x := bs_by x
      go_enter Tryz.func55, Tryz.ntmps55
      go_wp2_with fail
      refine (HPB.out _).mono ?_
      rintro e w1 ⟨rfl, rfl⟩
      go_wp2_with fail
      refine (HWL.out _).mono ?_
      rintro e w1 ⟨rfl, rfl⟩
      go_wp2_with fail
      rw [← hV]
      have hVh : V.heap[w.heap.size]? = some (.cells #[.int .i64 0, .int .i64 0, .string ⟨#[]⟩] 143 (0, 0)) := by rw [hV]; exact heap_alloc_new w _
      have HVB : Hid (Below w.heap.size w V) := by unfold Hid; rw [hV]; exact (Below.refl _ _).alloc (Nat.le_refl _) _
      have HVH := hid hVh
      have z0 : ∀ d, ({ V with drawn := d } : World).cell? ⟨w.heap.size, 0, none⟩ = some (.int .i64 0) := fun d => by simp [World.cell?, hVh]
      have z1 : ∀ d, ({ V with drawn := d } : World).cell? ⟨w.heap.size, 1, none⟩ = some (.int .i64 0) := fun d => by simp [World.cell?, hVh]
      have z2 : ∀ d, ({ V with drawn := d } : World).cell? ⟨w.heap.size, 2, none⟩ = some (.string ⟨#[]⟩) := fun d => by simp [World.cell?, hVh]
      have z3 : ∀ d i, ({ V with drawn := d } : World).frozen? ⟨w.heap.size, i, none⟩ = false := fun d i => frozen_of_row _ _ i _ _ (show ({ V with drawn := d } : World).heap[w.heap.size]? = _ from hVh)
      clear hV hVh
      go_still_tail 9, hmx
      still_call (HWK.out _)
      (repeat still_step)
      refine wpStill_nil ?_
      go_wp2_with fail
      have hh := heap_setCell_same _ w.heap.size 2 _ _ (.string x) (heap_setCell_same _ w.heap.size 1 _ _ (.int .i64 (k : Int)) (heap_setCell_same V w.heap.size 0 _ _ (.int .i64 (wk : Int)) HVH.out))
      refine bodyPost_ret (results_cell_row rfl _ _ w.heap.size 143 #[.int .i64 (wk : Int), .int .i64 (k : Int), .string x] (0, 0) _ rfl (by exact hh) Tryz.underlying143 rfl (by kernel_rfl)) rfl ?_
      exact ⟨by unfold tokv; rw [hsx], (((HVB.out.setCell (p := ⟨w.heap.size, 0, none⟩) (Nat.le_refl _) _).setCell (p := ⟨w.heap.size, 1, none⟩) (Nat.le_refl _) _).setCell (p := ⟨w.heap.size, 2, none⟩) (Nat.le_refl _) _).drew⟩
    · obtain rfl : n = 0 := by omega
      have HS := hid (fun W => sign_any r W hr0)
      have hs2 := sgn_two (by' r)
      have hs3 := hs2.2.2 hz
      rw [by_len] at hs3
      obtain ⟨kd, hkd⟩ : ∃ kd, (sgn (by' r)).1 = kd := ⟨_, rfl⟩
      obtain ⟨m, hm⟩ : ∃ m, (sgn (by' r)).2 = m := ⟨_, rfl⟩
      have HTT : Hid (tok L a = ⟨kd, k, by' (r.extract 0 m)⟩) := by
        unfold Hid
        rw [HTK.out, tokR, if_neg hz, if_neg (by intro h; exact h (List.length_eq_zero_iff.1 hn)), HHK.out, by_ext, hkd, hm]
        simp
      rw [hm] at hs3
      rw [hkd, hm] at HS
      rw [HTT.out]
      have hmi : (m : Int) ≤ (r.size : Int) := by omega
      obtain ⟨x, hx⟩ : ∃ x, r.extract 0 m = x := ⟨_, rfl⟩
      rw [hx]
      have hsx : bs (by' x) = x := bs_by x
      have hml : m ≤ r.size := hs3
      clear hn htx hz hr0 h0 hs2 hs3 hkd hm hrl
      go_enter Tryz.func55, Tryz.ntmps55
      go_wp2_with fail
      refine (HPB.out _).mono ?_
      rintro e w1 ⟨rfl, rfl⟩
      go_wp2_with fail
      refine (HWL.out _).mono ?_
      rintro e w1 ⟨rfl, rfl⟩
      go_wp2_with fail
      refine (HS.out _).mono ?_
      rintro e w1 ⟨rfl, rfl⟩
      go_wp2_with fail
      refine bodyPost_ret (results_cell_row rfl _ _ w.heap.size 143 #[.int .i64 (kd : Int), .int .i64 (k : Int), .string x] (0, 0) _ rfl (heap_alloc_new w _) Tryz.underlying143 rfl (by kernel_rfl)) rfl ?_
      exact ⟨by unfold tokv; rw [hsx], (Below.refl _ _).alloc (Nat.le_refl _) _⟩

end Go.Proofs.YtmmgkdcojkmlcaaGreatDoor

namespace Go.Proofs
open Go.Shelf

def Tryz.laysC172_ren : Go.Shelf.Ren := ⟨fun | 172 => 122 | 244 => 123 | 245 => 124 | 247 => 125 | 279 => 126 | 280 => 127 | 281 => 128 | 282 => 129 | 287 => 130 | 316 => 110 | 171 => 132 | 205 => 131 | 321 => 133 | 322 => 134 | 243 => 135 | 246 => 136 | 283 => 137 | 284 => 138 | 285 => 139 | 286 => 140 | 129 => 142 | 317 => 141 | 318 => 143 | 319 => 144 | 320 => 145 | 337 => 146 | 338 => 147 | n => n, fun | 9 => 9 | 3 => 3 | 75 => 31 | 76 => 207 | 4 => 4 | 5 => 5 | 167 => 210 | 37 => 204 | 0 => 0 | 85 => 211 | 2 => 2 | 168 => 213 | 53 => 216 | 175 => 217 | 46 => 219 | 210 => 221 | 127 => 205 | 145 => 227 | 143 => 225 | 21 => 21 | 171 => 229 | 173 => 232 | 212 => 235 | 51 => 236 | 20 => 20 | 213 => 237 | 232 => 240 | 233 => 241 | 80 => 107 | n => n, fun | 15 => 2 | 16 => 3 | 17 => 4 | 18 => 5 | 19 => 6 | n => n⟩
theorem Tryz.laysC172 : Go.Proofs.LaysC.n172 Tryz.prog Tryz.laysC172_ren := {
  mixed := by kernel_rfl
  f129 := Tryz.func142.trans (congrArg some (by kernel_rfl))
  f171 := Tryz.func132.trans (congrArg some (by kernel_rfl))
  f172 := Tryz.func122.trans (congrArg some (by kernel_rfl))
  f205 := Tryz.func131.trans (congrArg some (by kernel_rfl))
  f243 := Tryz.func135.trans (congrArg some (by kernel_rfl))
  f244 := Tryz.func123.trans (congrArg some (by kernel_rfl))
  f245 := Tryz.func124.trans (congrArg some (by kernel_rfl))
  f246 := Tryz.func136.trans (congrArg some (by kernel_rfl))
  f247 := Tryz.func125.trans (congrArg some (by kernel_rfl))
  f279 := Tryz.func126.trans (congrArg some (by kernel_rfl))
  f280 := Tryz.func127.trans (congrArg some (by kernel_rfl))
  f281 := Tryz.func128.trans (congrArg some (by kernel_rfl))
  f282 := Tryz.func129.trans (congrArg some (by kernel_rfl))
  f283 := Tryz.func137.trans (congrArg some (by kernel_rfl))
  f284 := Tryz.func138.trans (congrArg some (by kernel_rfl))
  f285 := Tryz.func139.trans (congrArg some (by kernel_rfl))
  f286 := Tryz.func140.trans (congrArg some (by kernel_rfl))
  f287 := Tryz.func130.trans (congrArg some (by kernel_rfl))
  f316 := Tryz.func110.trans (congrArg some (by kernel_rfl))
  f317 := Tryz.func141.trans (congrArg some (by kernel_rfl))
  f318 := Tryz.func143.trans (congrArg some (by kernel_rfl))
  f319 := Tryz.func144.trans (congrArg some (by kernel_rfl))
  f320 := Tryz.func145.trans (congrArg some (by kernel_rfl))
  f321 := Tryz.func133.trans (congrArg some (by kernel_rfl))
  f322 := Tryz.func134.trans (congrArg some (by kernel_rfl))
  f337 := Tryz.func146.trans (congrArg some (by kernel_rfl))
  f338 := Tryz.func147.trans (congrArg some (by kernel_rfl))
  t0 := Tryz.underlying0
  a0 := Tryz.isAgg0
  z0 := Tryz.sizeOf0
  v0 := Tryz.zeroValue0
  t2 := Tryz.underlying2
  a2 := Tryz.isAgg2
  z2 := Tryz.sizeOf2
  v2 := Tryz.zeroValue2
  t3 := Tryz.underlying3
  a3 := Tryz.isAgg3
  z3 := Tryz.sizeOf3
  v3 := Tryz.zeroValue3
  t4 := Tryz.underlying4
  a4 := Tryz.isAgg4
  z4 := Tryz.sizeOf4
  v4 := Tryz.zeroValue4
  t5 := Tryz.underlying5
  a5 := Tryz.isAgg5
  z5 := Tryz.sizeOf5
  v5 := Tryz.zeroValue5
  t9 := Tryz.underlying9
  a9 := Tryz.isAgg9
  z9 := Tryz.sizeOf9
  v9 := Tryz.zeroValue9
  t20 := Tryz.underlying20
  a20 := Tryz.isAgg20
  z20 := Tryz.sizeOf20
  v20 := Tryz.zeroValue20
  t21 := Tryz.underlying21
  a21 := Tryz.isAgg21
  z21 := Tryz.sizeOf21
  v21 := Tryz.zeroValue21
  t37 := Tryz.underlying204
  a37 := Tryz.isAgg204
  z37 := Tryz.sizeOf204
  v37 := Tryz.zeroValue204
  t46 := Tryz.underlying219
  a46 := Tryz.isAgg219
  z46 := Tryz.sizeOf219
  v46 := Tryz.zeroValue219
  t51 := Tryz.underlying236
  a51 := Tryz.isAgg236
  z51 := Tryz.sizeOf236
  v51 := Tryz.zeroValue236
  t53 := Tryz.underlying216
  a53 := Tryz.isAgg216
  z53 := Tryz.sizeOf216
  v53 := Tryz.zeroValue216
  t75 := Tryz.underlying31
  a75 := Tryz.isAgg31
  z75 := Tryz.sizeOf31
  v75 := Tryz.zeroValue31
  t76 := Tryz.underlying207
  a76 := Tryz.isAgg207
  z76 := Tryz.sizeOf207
  v76 := Tryz.zeroValue207
  t85 := Tryz.underlying211
  a85 := Tryz.isAgg211
  z85 := Tryz.sizeOf211
  v85 := Tryz.zeroValue211
  t127 := Tryz.underlying205
  a127 := Tryz.isAgg205
  z127 := Tryz.sizeOf205
  v127 := Tryz.zeroValue205
  t143 := Tryz.underlying225
  a143 := Tryz.isAgg225
  z143 := Tryz.sizeOf225
  v143 := Tryz.zeroValue225
  t145 := Tryz.underlying227
  a145 := Tryz.isAgg227
  z145 := Tryz.sizeOf227
  v145 := Tryz.zeroValue227
  t167 := Tryz.underlying210
  a167 := Tryz.isAgg210
  z167 := Tryz.sizeOf210
  v167 := Tryz.zeroValue210
  t168 := Tryz.underlying213
  a168 := Tryz.isAgg213
  z168 := Tryz.sizeOf213
  v168 := Tryz.zeroValue213
  t171 := Tryz.underlying229
  a171 := Tryz.isAgg229
  z171 := Tryz.sizeOf229
  v171 := Tryz.zeroValue229
  t173 := Tryz.underlying232
  a173 := Tryz.isAgg232
  z173 := Tryz.sizeOf232
  v173 := Tryz.zeroValue232
  t175 := Tryz.underlying217
  a175 := Tryz.isAgg217
  z175 := Tryz.sizeOf217
  v175 := Tryz.zeroValue217
  t210 := Tryz.underlying221
  a210 := Tryz.isAgg221
  z210 := Tryz.sizeOf221
  v210 := Tryz.zeroValue221
  t212 := Tryz.underlying235
  a212 := Tryz.isAgg235
  z212 := Tryz.sizeOf235
  v212 := Tryz.zeroValue235
  t213 := Tryz.underlying237
  a213 := Tryz.isAgg237
  z213 := Tryz.sizeOf237
  t232 := Tryz.underlying240
  a232 := Tryz.isAgg240
  z232 := Tryz.sizeOf240
  v232 := Tryz.zeroValue240
  t233 := Tryz.underlying241
  a233 := Tryz.isAgg241
  z233 := Tryz.sizeOf241
  v233 := Tryz.zeroValue241
  g15 := by kernel_rfl
  g16 := by kernel_rfl
  g17 := by kernel_rfl
  g18 := by kernel_rfl
  g19 := by kernel_rfl
  t80 := Tryz.underlying107
  a80 := Tryz.isAgg107
  z80 := Tryz.sizeOf107
  v80 := Tryz.zeroValue107
  i0 := by kernel_rfl
  i2 := by kernel_rfl
  i3 := by kernel_rfl
  i4 := by kernel_rfl
  i5 := by kernel_rfl
  i9 := by kernel_rfl
  i20 := by kernel_rfl
  i21 := by kernel_rfl
  i37 := by kernel_rfl
  i46 := by kernel_rfl
  i51 := by kernel_rfl
  i53 := by kernel_rfl
  i75 := by kernel_rfl
  i76 := by kernel_rfl
  i80 := by kernel_rfl
  i85 := by kernel_rfl
  i127 := by kernel_rfl
  i143 := by kernel_rfl
  i145 := by kernel_rfl
  i167 := by kernel_rfl
  i168 := by kernel_rfl
  i171 := by kernel_rfl
  i173 := by kernel_rfl
  i175 := by kernel_rfl
  i210 := by kernel_rfl
  i212 := by kernel_rfl
  i232 := by kernel_rfl
  i233 := by kernel_rfl
  m15 := by kernel_rfl
  m16 := by kernel_rfl
  m17 := by kernel_rfl
  m18 := by kernel_rfl
  m19 := by kernel_rfl
  c0 := by kernel_rfl
  c2 := by kernel_rfl
  c3 := by kernel_rfl
  c4 := by kernel_rfl
  c5 := by kernel_rfl
  c9 := by kernel_rfl
  c20 := by kernel_rfl
  c21 := by kernel_rfl
  c37 := by kernel_rfl
  c46 := by kernel_rfl
  c51 := by kernel_rfl
  c53 := by kernel_rfl
  c75 := by kernel_rfl
  c76 := by kernel_rfl
  c80 := by kernel_rfl
  c85 := by kernel_rfl
  c127 := by kernel_rfl
  c143 := by kernel_rfl
  c145 := by kernel_rfl
  c167 := by kernel_rfl
  c168 := by kernel_rfl
  c171 := by kernel_rfl
  c173 := by kernel_rfl
  c175 := by kernel_rfl
  c210 := by kernel_rfl
  c212 := by kernel_rfl
  c213 := by kernel_rfl
  c232 := by kernel_rfl
  c233 := by kernel_rfl }
open Go.RowKit in
theorem Tryz.strconv_Atoi_ok (s : ByteArray) (hmax : s.size ≤ 9223372036854775806) (v : Int) (h : Lib.atoiAll s.data.toList = .ok v) (w : World) :
    Calls Tryz.prog 122 #[.string s] w fun e w' => e = .returned (.tuple #[.int .i64 v, .nilIface]) ∧ (w' = w ∨ ∃ t, w' = Lib.bytesWorld w 5 t) := Any.strconv_Atoi_ok Tryz.laysC172 s hmax v h w
open Go.RowKit in
theorem Tryz.strconv_Atoi_range (s : ByteArray) (hlim : s.size ≤ 281474976710656) (h : Lib.atoiAll s.data.toList = .range) (ev : Value) (w : World) (hv : w.cell? ⟨3, 0, none⟩ = some ev) (hev : ev = .nilIface ∨ ∃ te pe, ev = .iface te pe) :
    Calls Tryz.prog 122 #[.string s] w fun e w' => ∃ N, e = .returned (.tuple #[.int .i64 (Lib.atoiSat s.data.toList), .iface 213 (.pointer (some ⟨N, 0, none⟩))]) ∧ w.heap.size ≤ N ∧ w'.heap[N]? = some (.cells #[.string ⟨#[65, 116, 111, 105]⟩, .string s, ev] 221 (0, 0)) ∧ Below w.heap.size w w' := Any.strconv_Atoi_range Tryz.laysC172 s hlim h ev w hv hev

end Go.Proofs

namespace Go.Proofs.YtmmgkdcojkmlcaaGreatDoor
open Go

section
variable {P : Program} {ops : Array Oper} {Q : Exit → Act → World → Prop} {md : Region.Mode} {C : World → Prop} {st : List Nat}

/-- none of these has come up -/
def noSt (st : List Nat) (L : Array Bool) : Prop := ∀ s, s ∈ st → L.getD s true = false

theorem noSt_set {st : List Nat} {L : Array Bool} {j : Nat} (hj : j ∉ st) (h : noSt st L) : noSt st (L.setIfInBounds j true) := fun s hs => by
  have hne : j ≠ s := fun e => hj (by rw [e]; exact hs)
  rw [getD_set_ne true hne]; exact h s hs

/-- whatever order is picked, and C holds behind each operation as long as none of st has come up -/
def wpAnyS (P : Program) (md : Region.Mode) (ops : Array Oper) (Q : Exit → Act → World → Prop) (C : World → Prop) (st : List Nat) : Nat → Array Bool → Act → World → Prop
  | 0, listed, a, w => Region.ready md ops listed = [] ∧ Q .normal a w
  | fuel + 1, listed, a, w =>
    (Region.ready md ops listed = [] → Q .normal a w) ∧
    ∀ i ∈ Region.ready md ops listed, wpOp P ops Q i (fun a' w' => (noSt st (listed.setIfInBounds i true) → C w') ∧ wpAnyS P md ops Q C st fuel (listed.setIfInBounds i true) a' w') a w

theorem wpAny_of_S : ∀ (fuel : Nat) (listed : Array Bool) (a : Act) (w : World), wpAnyS P md ops Q C st fuel listed a w → wpAny P md ops Q fuel listed a w
  | 0, _, _, _, h => h
  | fuel + 1, _, _, _, h => ⟨h.1, fun i hi => wpOp_mono (fun a' w' h' => wpAny_of_S fuel _ a' w' h'.2) (h.2 i hi)⟩

/-- s waits for i, over so many edges at the most -/
def depB (md : Region.Mode) (ops : Array Oper) : Nat → Nat → Nat → Bool
  | 0, _, _ => false
  | f + 1, s, i => match ops[s]? with | some o => o.after.any fun e => Region.binds md e && (e.on == i || depB md ops f e.on i) | none => false

/-- what has come up waited for what had come up -/
def Cl (md : Region.Mode) (ops : Array Oper) (L : Array Bool) : Prop := ∀ (k : Nat) (o : Oper), ops[k]? = some o → L.getD k false = true → ∀ e ∈ o.after, Region.binds md e = true → L.getD e.on false = true
def clB (md : Region.Mode) (ops : Array Oper) (L : Array Bool) : Bool := (List.range ops.size).all fun k => !(L.getD k false) || match ops[k]? with | some o => o.after.all fun e => !(Region.binds md e) || L.getD e.on false | none => true
theorem cl_of_B {L : Array Bool} (h : clB md ops L = true) : Cl md ops L := fun k o hk hl e he hb => by
  have := List.all_eq_true.1 h k (List.mem_range.2 (Array.getElem?_eq_some_iff.1 hk).1)
  simp only [hk, hl, Bool.not_true, Bool.false_or] at this
  have := Array.all_eq_true'.1 this e he
  simpa [hb] using this

theorem getD_mono {L : Array Bool} {j x : Nat} (h : L.getD x false = true) : (L.setIfInBounds j true).getD x false = true := by
  by_cases e : j = x
  · subst e
    rcases Nat.lt_or_ge j L.size with g | g
    · simp [g]
    · simp [Array.getElem?_eq_none g] at h
  · simp only [Array.getD_eq_getD_getElem?] at *
    rw [Array.getElem?_setIfInBounds_ne e]; exact h

theorem Cl.set {L : Array Bool} (h : Cl md ops L) {j : Nat} (hj : ∀ o, ops[j]? = some o → ∀ e ∈ o.after, Region.binds md e = true → L.getD e.on false = true) : Cl md ops (L.setIfInBounds j true) := fun k o hk hl e he hb => by
  by_cases ejk : j = k
  · subst ejk; exact getD_mono (hj o hk e he hb)
  · refine getD_mono (h k o hk ?_ e he hb)
    simp only [Array.getD_eq_getD_getElem?] at *
    rw [Array.getElem?_setIfInBounds_ne ejk] at hl; exact hl

theorem dep_listed {L : Array Bool} (h : Cl md ops L) {i : Nat} : ∀ (f s : Nat), depB md ops f s i = true → (∀ o, ops[s]? = some o → ∀ e ∈ o.after, Region.binds md e = true → L.getD e.on false = true) → L.getD i false = true
  | 0, _, hd, _ => by simp [depB] at hd
  | f + 1, s, hd, hs => by
    unfold depB at hd
    split at hd
    · rename_i o ho
      obtain ⟨e, he, hb⟩ := Array.any_eq_true'.1 hd
      rw [Bool.and_eq_true, Bool.or_eq_true, beq_iff_eq] at hb
      have hl := hs o ho e he hb.1
      rcases hb.2 with g | g
      · rw [← g]; exact hl
      · exact dep_listed h f e.on g (fun o' ho' => h e.on o' ho' hl)
    · cases hd

/-- every one of st waits for i -/
def waitsB (md : Region.Mode) (ops : Array Oper) (st : List Nat) (i : Nat) : Bool := !st.contains i && st.all fun s => depB md ops 4 s i

theorem waits_spec {i : Nat} (h : waitsB md ops st i = true) : i ∉ st ∧ ∀ s, s ∈ st → depB md ops 4 s i = true := by
  unfold waitsB at h
  rw [Bool.and_eq_true] at h
  exact ⟨by simpa using h.1, fun s hs => List.all_eq_true.1 h.2 s hs⟩

theorem wpAnyS_first {i : Nat} {oi : Oper} {v : Value} (hi : ops[i]? = some oi) (hsel : ∀ (j : Nat) (o : Oper) cs b, ops[j]? = some o → o.op ≠ .select cs b)
    (hw : i ∉ st ∧ ∀ s, s ∈ st → depB md ops 4 s i = true)
    (hQ : ∀ c a w, Q (.panic c) (a.put oi.dst v) w → Q (.panic c) a w) :
    ∀ (fuel : Nat) (listed : Array Bool) (a : Act) (w : World),
      (∀ j oj, ops[j]? = some oj → j ≠ i → listed.getD j true = false → (∀ e ∈ oj.after, Region.binds md e = true → e.on ≠ i) → oi.apart ops oj = true) →
      i ∈ Region.ready md ops listed → YieldsIf P ops C oi v a → C w → noSt st listed → Cl md ops listed →
      wpAnyS P md ops Q C st fuel (listed.setIfInBounds i true) (a.put oi.dst v) w → wpAnyS P md ops Q C st (fuel + 1) listed a w := by
  intro fuel
  induction fuel with
  | zero =>
    intro listed a w _ hr hy hC hn hcl H
    refine ⟨fun h => (by rw [h] at hr; cases hr), fun j hj => ?_⟩
    by_cases hji : j = i
    · subst hji; exact hy.wpOp hi hC ⟨fun _ => hC, H⟩
    · have := ready_mono hj hji
      rw [H.1] at this
      cases this
  | succ fuel ih =>
    intro listed a w hfree hr hy hC hn hcl H
    refine ⟨fun h => (by rw [h] at hr; cases hr), fun j hj => ?_⟩
    by_cases hji : j = i
    · subst hji; exact hy.wpOp hi hC ⟨fun _ => hC, H⟩
    · have h1 := H.2 j (ready_mono hj hji)
      obtain ⟨hjun, oj, hoj, hall⟩ := mem_ready.1 hj
      have hnot : ∀ e ∈ oj.after, Region.binds md e = true → e.on ≠ i := fun e he hb heq => by
        have h1 := hall e he hb
        have h0 := (mem_ready.1 hr).1
        rw [heq] at h1
        rcases Nat.lt_or_ge i listed.size with h' | h'
        · simp [h'] at h0 h1; rw [h0] at h1; cases h1
        · simp [Array.getElem?_eq_none h'] at h1
      have hedges : ∀ o, ops[j]? = some o → ∀ e ∈ o.after, Region.binds md e = true → listed.getD e.on false = true := fun o ho e he hb => by
        rw [hoj] at ho
        obtain rfl := Option.some.inj ho
        exact hall e he hb
      have hiun : listed.getD i false = false := by
        have h0 := (mem_ready.1 hr).1
        rcases Nat.lt_or_ge i listed.size with h' | h'
        · simp [h'] at h0 ⊢; exact h0
        · simp [Array.getElem?_eq_none h']
      have hjst : j ∉ st := fun hjs => by
        have := dep_listed hcl 4 j (hw.2 j hjs) hedges
        rw [hiun] at this; cases this
      have hn1 : noSt st ((listed.setIfInBounds i true).setIfInBounds j true) := noSt_set hjst (noSt_set hw.1 hn)
      have h2 := wpOp_putIf hoj (hfree j oj hoj hji hjun hnot) (fun cs b => hsel i oi cs b hi) (fun cs b => hsel j oj cs b hoj) hQ hy h1
      have hfree' : ∀ k ok, ops[k]? = some ok → k ≠ i → (listed.setIfInBounds j true).getD k true = false →
          (∀ e ∈ ok.after, Region.binds md e = true → e.on ≠ i) → oi.apart ops ok = true := fun k ok hk hki hun hno => by
        refine hfree k ok hk hki ?_ hno
        by_cases hjk : j = k
        · subst hjk; exact hjun
        · rw [getD_set_ne true hjk] at hun; exact hun
      refine wpOp_mono (fun a' w' h3 => ⟨fun _ => h3.2.1 hn1, ih (listed.setIfInBounds j true) a' w' hfree' (ready_mono hr (Ne.symm hji)) h3.1 (h3.2.1 hn1) (noSt_set hjst hn) (hcl.set hedges) ?_⟩) h2
      rw [Array.setIfInBounds_comm _ _ hji]
      exact h3.2.2

theorem noSt_unset {st : List Nat} {L : Array Bool} {j : Nat} (hj : j ∉ st) (h : noSt st (L.setIfInBounds j true)) : noSt st L := fun s hs => by
  have hne : j ≠ s := fun e => hj (by rw [e]; exact hs)
  have := h s hs
  rwa [getD_set_ne true hne] at this

theorem wpAnyS_firstP {i : Nat} {oi : Oper} {v : Value} (hi : ops[i]? = some oi) (hsel : ∀ (j : Nat) (o : Oper) cs b, ops[j]? = some o → o.op ≠ .select cs b) (hw : i ∉ st)
    (hQ : ∀ c a w, Q (.panic c) (a.put oi.dst v) w → Q (.panic c) a w) :
    ∀ (fuel : Nat) (listed : Array Bool) (a : Act) (w : World),
      (∀ j oj, ops[j]? = some oj → j ≠ i → listed.getD j true = false → (∀ e ∈ oj.after, Region.binds md e = true → e.on ≠ i) → oi.apart ops oj = true) →
      i ∈ Region.ready md ops listed → YieldsIf P ops (fun _ => True) oi v a → (noSt st listed → C w) →
      wpAnyS P md ops Q C st fuel (listed.setIfInBounds i true) (a.put oi.dst v) w → wpAnyS P md ops Q C st (fuel + 1) listed a w := by
  intro fuel
  induction fuel with
  | zero =>
    intro listed a w _ hr hy hC H
    refine ⟨fun h => (by rw [h] at hr; cases hr), fun j hj => ?_⟩
    by_cases hji : j = i
    · subst hji; exact hy.wpOp hi trivial ⟨fun h => hC (noSt_unset hw h), H⟩
    · have := ready_mono hj hji
      rw [H.1] at this
      cases this
  | succ fuel ih =>
    intro listed a w hfree hr hy hC H
    refine ⟨fun h => (by rw [h] at hr; cases hr), fun j hj => ?_⟩
    by_cases hji : j = i
    · subst hji; exact hy.wpOp hi trivial ⟨fun h => hC (noSt_unset hw h), H⟩
    · have h1 := H.2 j (ready_mono hj hji)
      obtain ⟨hjun, oj, hoj, hall⟩ := mem_ready.1 hj
      have hnot : ∀ e ∈ oj.after, Region.binds md e = true → e.on ≠ i := fun e he hb heq => by
        have h1 := hall e he hb
        have h0 := (mem_ready.1 hr).1
        rw [heq] at h1
        rcases Nat.lt_or_ge i listed.size with h' | h'
        · simp [h'] at h0 h1; rw [h0] at h1; cases h1
        · simp [Array.getElem?_eq_none h'] at h1
      have h2 := wpOp_putIf hoj (hfree j oj hoj hji hjun hnot) (fun cs b => hsel i oi cs b hi) (fun cs b => hsel j oj cs b hoj) hQ hy h1
      have hfree' : ∀ k ok, ops[k]? = some ok → k ≠ i → (listed.setIfInBounds j true).getD k true = false →
          (∀ e ∈ ok.after, Region.binds md e = true → e.on ≠ i) → oi.apart ops ok = true := fun k ok hk hki hun hno => by
        refine hfree k ok hk hki ?_ hno
        by_cases hjk : j = k
        · subst hjk; exact hjun
        · rw [getD_set_ne true hjk] at hun; exact hun
      refine wpOp_mono (fun a' w' h3 => ?_) h2
      have hb : noSt st (listed.setIfInBounds j true) → C w' := fun hns => h3.2.1 (by
        rw [Array.setIfInBounds_comm _ _ (Ne.symm hji)]
        exact noSt_set hw hns)
      refine ⟨hb, ih (listed.setIfInBounds j true) a' w' hfree' (ready_mono hr (Ne.symm hji)) h3.1 hb ?_⟩
      rw [Array.setIfInBounds_comm _ _ hji]
      exact h3.2.2

/-- one that asks nothing of the world -/
theorem wpAnyS_pure {i : Nat} {oi : Oper} {v : Value} {fuel : Nat} {listed : Array Bool} {a : Act} {w : World} (hi : ops[i]? = some oi)
    (hs : Region.noSelect ops = true) (hf : Region.free md ops listed i = true) (hr : (Region.ready md ops listed).contains i = true) (hw : st.contains i = false)
    (hQ : ∀ c a w, Q (.panic c) (a.put oi.dst v) w → Q (.panic c) a w) (hy : YieldsIf P ops (fun _ => True) oi v a) (hC : noSt st listed → C w)
    (h : wpAnyS P md ops Q C st fuel (listed.setIfInBounds i true) (a.put oi.dst v) w) : wpAnyS P md ops Q C st (fuel + 1) listed a w :=
  wpAnyS_firstP hi (Region.noSelect_spec hs) (by simpa using hw) hQ fuel listed a w (Region.free_spec hi hf) (by simpa using hr) hy hC h

theorem wpAnyS_take {i : Nat} {oi : Oper} {v : Value} {fuel : Nat} {listed : Array Bool} {a : Act} {w : World} (hi : ops[i]? = some oi)
    (hs : Region.noSelect ops = true) (hf : Region.free md ops listed i = true) (hr : (Region.ready md ops listed).contains i = true) (hw : waitsB md ops st i = true) (hn : (st.all fun s => !(listed.getD s true)) = true) (hcl : clB md ops listed = true)
    (hQ : ∀ c a w, Q (.panic c) (a.put oi.dst v) w → Q (.panic c) a w) (hy : YieldsIf P ops C oi v a) (hC : C w)
    (h : wpAnyS P md ops Q C st fuel (listed.setIfInBounds i true) (a.put oi.dst v) w) : wpAnyS P md ops Q C st (fuel + 1) listed a w :=
  wpAnyS_first hi (Region.noSelect_spec hs) (waits_spec hw) hQ fuel listed a w (Region.free_spec hi hf) (by simpa using hr) hy hC (fun s hs => by have := List.all_eq_true.1 hn s hs; simpa using this) (cl_of_B hcl) h

/-- one alone may come up -/
theorem wpAnyS_one {i : Nat} {fuel : Nat} {listed : Array Bool} {a : Act} {w : World} (hr : Region.ready md ops listed = [i])
    (h : wpOp P ops Q i (fun a' w' => (noSt st (listed.setIfInBounds i true) → C w') ∧ wpAnyS P md ops Q C st fuel (listed.setIfInBounds i true) a' w') a w) : wpAnyS P md ops Q C st (fuel + 1) listed a w :=
  ⟨(fun h0 => by rw [hr] at h0; cases h0), fun j hj => by rw [hr] at hj; obtain rfl := List.mem_singleton.1 hj; exact h⟩

theorem wpAnyS_done {listed : Array Bool} {a : Act} {w : World} (hr : Region.ready md ops listed = []) (h : Q .normal a w) :
    ∀ fuel, wpAnyS P md ops Q C st fuel listed a w
  | 0 => ⟨hr, h⟩
  | _ + 1 => ⟨fun _ => h, by rw [hr]; simp⟩

theorem wp_region_S {id : Nat} {a : Act} {w : World} (hm : P.follows .mixedOrders = true)
    (h : wpAnyS P .any ops Q C st ops.size (Array.replicate ops.size false) a w.drew) : (Code.region id ops true).wp P Q a w :=
  wp_region_any hm (wpAny_of_S _ _ _ _ h)

end
end Go.Proofs.YtmmgkdcojkmlcaaGreatDoor
