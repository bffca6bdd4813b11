/- Package source: bytes and words. strings.IndexByte, HasPrefix, Clone: laid for this program. Package source: words and signs. -/
import Derived.Test.YthpkcageimhgaaaDoorSqAA
import Derived.Test.YthpkcageimhgaaaDoorFld
import Derived.Lib.Strings
import Derived.Shelf.Small.Strs
import Derived.Shelf.Strings.Prefix
import Derived.Shelf.LaysM
import Derived.Shelf.Strconv.Clone
import Derived.Test.YthpkcageimhgaaaDoorProg
namespace Go.Proofs.YthpkcageimhgaaaDoor
open Go.RowKit

/-- a string of bytes -/
def bs (l : List UInt8) : ByteArray := ⟨l.toArray⟩
theorem bs_size (l : List UInt8) : (bs l).size = l.length := by simp [bs, ByteArray.size]
theorem bs_list (l : List UInt8) : (bs l).toList = l := by rw [Lib.toList_data]; simp [bs]
theorem bs_of (s : ByteArray) : bs s.data.toList = s := by simp [bs]
theorem bs_ext (l : List UInt8) (a b : Nat) : (bs l).extract a b = bs ((l.take b).drop a) := by
  apply ByteArray.ext
  simp [bs, ByteArray.data_extract, List.drop_take]
theorem bs_app (l m : List UInt8) : bs l ++ bs m = bs (l ++ m) := by
  apply ByteArray.ext
  simp [bs]
theorem bs_inj {l m : List UInt8} (h : bs l = bs m) : l = m := by
  have := congrArg ByteArray.toList h
  rwa [bs_list, bs_list] at this

theorem isdigit_any (c : UInt8) (w : World) : Calls Tryd.prog 49 #[.int .u8 (c.toNat : Int)] w fun e w' => e = .returned (.bool (isDg c)) ∧ w' = w := by
  have e : isDg c = (decide (48 ≤ (c.toNat : Int)) && decide ((c.toNat : Int) ≤ 57)) := by
    unfold isDg
    rw [Bool.eq_iff_iff]
    simp [UInt8.le_iff_toNat_le]
    omega
  rw [e]
  generalize (c.toNat : Int) = m
  by_cases h1 : 48 ≤ m
  · by_cases h2 : m ≤ 57
    all_goals
      go_enter Tryd.func49, Tryd.ntmps49
      go_wp2_with fail
      go_ret
      simp
      try omega
  · go_enter Tryd.func49, Tryd.ntmps49
    go_wp2_with fail
    go_ret
    simp
    omega
set_option maxHeartbeats 400000 in
theorem isletter_any (c : UInt8) (w : World) : Calls Tryd.prog 48 #[.int .u8 (c.toNat : Int)] w fun e w' => e = .returned (.bool (isLt c)) ∧ w' = w := by
  have e : isLt c = ((decide (65 ≤ (c.toNat : Int)) && decide ((c.toNat : Int) ≤ 90)) || (decide (97 ≤ (c.toNat : Int)) && decide ((c.toNat : Int) ≤ 122))) := by
    unfold isLt
    rw [Bool.eq_iff_iff]
    simp [UInt8.le_iff_toNat_le]
    omega
  rw [e]
  generalize (c.toNat : Int) = m
  by_cases h1 : 97 ≤ m
  · by_cases h2 : m ≤ 122
    · go_enter Tryd.func48, Tryd.ntmps48
      go_wp2_with fail
      go_ret
      simp
      try omega
    · have h3 : 65 ≤ m := by omega
      have h4 : ¬ m ≤ 90 := by omega
      go_enter Tryd.func48, Tryd.ntmps48
      go_wp2_with fail
      go_ret
      simp
      try omega
  · by_cases h3 : 65 ≤ m
    · by_cases h4 : m ≤ 90
      all_goals
        go_enter Tryd.func48, Tryd.ntmps48
        go_wp2_with fail
        go_ret
        simp
        try omega
    · go_enter Tryd.func48, Tryd.ntmps48
      go_wp2_with fail
      go_ret
      simp
      try omega

end Go.Proofs.YthpkcageimhgaaaDoor

namespace Go.Proofs
open Go.Shelf

def Tryd.lays137_ren : Go.Shelf.Ren := ⟨fun | 137 => 62 | 217 => 70 | 266 => 77 | n => n, fun | 9 => 9 | 5 => 5 | 3 => 3 | n => n, fun | n => n⟩
theorem Tryd.lays137 : Go.Proofs.Lays.n137 Tryd.prog Tryd.lays137_ren := {
  mixed := by kernel_rfl
  f137 := Tryd.func62.trans (congrArg some (by kernel_rfl))
  f217 := Tryd.func70.trans (congrArg some (by kernel_rfl))
  f266 := Tryd.func77.trans (congrArg some (by kernel_rfl))
  t3 := Tryd.underlying3
  a3 := Tryd.isAgg3
  z3 := Tryd.sizeOf3
  v3 := Tryd.zeroValue3
  t5 := Tryd.underlying5
  a5 := Tryd.isAgg5
  z5 := Tryd.sizeOf5
  v5 := Tryd.zeroValue5
  t9 := Tryd.underlying9
  a9 := Tryd.isAgg9
  z9 := Tryd.sizeOf9
  v9 := Tryd.zeroValue9 }
open Go.RowKit in
theorem Tryd.strings_IndexByte (s : ByteArray) (c : Int) (w : World) :
    Calls Tryd.prog 62 #[.string s, .int .u8 c] w fun e w' => e = .returned (.int .i64 (Lib.indexByte s.data.toList c.toNat.toUInt8)) ∧ w' = w := Any.strings_IndexByte Tryd.lays137 s c w
def Tryd.laysM316_ren : Go.Shelf.Ren := ⟨fun | 316 => 64 | n => n, fun | 9 => 9 | 3 => 3 | 4 => 4 | 37 => 44 | 0 => 0 | 127 => 59 | 5 => 5 | n => n, fun | n => n⟩
theorem Tryd.laysM316 : Go.Proofs.LaysM.n316 Tryd.prog Tryd.laysM316_ren := {
  mixed := by kernel_rfl
  f316 := Tryd.func64.trans (congrArg some (by kernel_rfl))
  t0 := Tryd.underlying0
  a0 := Tryd.isAgg0
  z0 := Tryd.sizeOf0
  v0 := Tryd.zeroValue0
  t3 := Tryd.underlying3
  a3 := Tryd.isAgg3
  z3 := Tryd.sizeOf3
  v3 := Tryd.zeroValue3
  t4 := Tryd.underlying4
  a4 := Tryd.isAgg4
  z4 := Tryd.sizeOf4
  v4 := Tryd.zeroValue4
  t9 := Tryd.underlying9
  a9 := Tryd.isAgg9
  z9 := Tryd.sizeOf9
  v9 := Tryd.zeroValue9
  t37 := Tryd.underlying44
  a37 := Tryd.isAgg44
  z37 := Tryd.sizeOf44
  v37 := Tryd.zeroValue44
  t127 := Tryd.underlying59
  a127 := Tryd.isAgg59
  z127 := Tryd.sizeOf59
  v127 := Tryd.zeroValue59
  t5 := Tryd.underlying5
  a5 := Tryd.isAgg5
  z5 := Tryd.sizeOf5
  v5 := Tryd.zeroValue5
  i0 := by kernel_rfl
  i3 := by kernel_rfl
  i4 := by kernel_rfl
  i5 := by kernel_rfl
  i9 := by kernel_rfl
  i37 := by kernel_rfl
  i127 := by kernel_rfl }
open Go.RowKit in
theorem Tryd.stringslite_Clone (s : ByteArray) (w : World) (hlim : s.size ≤ 281474976710656) :
    Calls Tryd.prog 64 #[.string s] w fun e w' => e = .returned (.string s) ∧ Below w.heap.size w w' := Any.stringslite_Clone Tryd.laysM316 s w hlim
def Tryd.lays99_ren : Go.Shelf.Ren := ⟨fun | 99 => 51 | 206 => 63 | n => n, fun | 9 => 9 | 4 => 4 | 3 => 3 | n => n, fun | n => n⟩
theorem Tryd.lays99 : Go.Proofs.Lays.n99 Tryd.prog Tryd.lays99_ren := {
  mixed := by kernel_rfl
  f99 := Tryd.func51.trans (congrArg some (by kernel_rfl))
  f206 := Tryd.func63.trans (congrArg some (by kernel_rfl))
  t3 := Tryd.underlying3
  a3 := Tryd.isAgg3
  z3 := Tryd.sizeOf3
  v3 := Tryd.zeroValue3
  t4 := Tryd.underlying4
  a4 := Tryd.isAgg4
  z4 := Tryd.sizeOf4
  v4 := Tryd.zeroValue4
  t9 := Tryd.underlying9
  a9 := Tryd.isAgg9
  z9 := Tryd.sizeOf9
  v9 := Tryd.zeroValue9 }
open Go.RowKit Go.Lib in
theorem Tryd.strings_HasPrefix (s p : ByteArray) (w : World) :
    Calls Tryd.prog 51 #[.string s, .string p] w fun e w' => e = .returned (.bool (Lib.hasPrefix s.data.toList p.data.toList)) ∧ w' = w := Any.strings_HasPrefix Tryd.lays99 s p w

end Go.Proofs

namespace Go.Proofs.YthpkcageimhgaaaDoor
open Go.RowKit

/-- the bytes of a string -/
def by' (s : ByteArray) : List UInt8 := s.data.toList
theorem by_bs (l : List UInt8) : by' (bs l) = l := by simp [by', bs]
theorem bs_by (s : ByteArray) : bs (by' s) = s := bs_of s
theorem by_len (s : ByteArray) : (by' s).length = s.size := Array.length_toList
theorem by_get (s : ByteArray) (k : Nat) (h : k < s.size) : (by' s)[k]'(by rw [by_len]; exact h) = s[k] := Array.getElem_toList _
theorem by_getD (s : ByteArray) (k : Nat) (h : k < s.size) : (by' s).getD k 0 = s[k] := by
  rw [← by_get s k h, List.getD_eq_getElem?_getD, List.getElem?_eq_getElem (by rw [by_len]; exact h)]
  rfl
theorem by_list (s : ByteArray) : s.toList = by' s := Lib.toList_data s
theorem by_ext (s : ByteArray) (a b : Nat) : by' (s.extract a b) = ((by' s).drop a).take (b - a) := by
  have := bs_ext (by' s) a b
  rw [bs_by] at this
  rw [this, by_bs, List.drop_take]
theorem tw_stop {p : UInt8 → Bool} : ∀ (l : List UInt8) (k : Nat), k < l.length → (∀ j, j < k → p (l.getD j 0) = true) → p (l.getD k 0) = false → (l.takeWhile p).length = k
  | [], _, h, _, _ => by simp at h
  | c :: r, 0, _, _, h => by
    have : p c = false := h
    simp [this]
  | c :: r, k + 1, h, ha, hn => by
    have h0 : p c = true := ha 0 (by omega)
    have ih := tw_stop r k (by simpa using h) (fun j hj => ha (j + 1) (by omega)) hn
    simp [h0, ih]
theorem tw_all {p : UInt8 → Bool} : ∀ (l : List UInt8), (∀ j, j < l.length → p (l.getD j 0) = true) → (l.takeWhile p).length = l.length
  | [], _ => rfl
  | c :: r, ha => by
    have h0 : p c = true := ha 0 (by simp)
    have ih := tw_all r (fun j hj => ha (j + 1) (by simpa using hj))
    simp [h0, ih]
theorem ib_tw : ∀ (l : List UInt8) (c : UInt8), (Lib.indexByte l c = -1 ∧ (l.takeWhile (· != c)).length = l.length) ∨ (0 ≤ Lib.indexByte l c ∧ Lib.indexByte l c = (l.takeWhile (· != c)).length)
  | [], _ => .inl ⟨rfl, rfl⟩
  | b :: l, c => by
    by_cases h : b = c
    · subst h
      exact .inr (by simp [Lib.indexByte])
    · have h1 : (b == c) = false := by simpa using h
      have h2 : (b != c) = true := by simp [h]
      rcases ib_tw l c with ⟨e1, e2⟩ | ⟨e1, e2⟩
      · refine .inl ?_
        simp [Lib.indexByte, h1, e1, h2, e2]
      · refine .inr ?_
        have h3 : ¬ Lib.indexByte l c = -1 := by omega
        simp [Lib.indexByte, h1, h2, h3]
        omega
theorem lineLen_any (s : ByteArray) (w : World) : Calls Tryd.prog 47 #[.string s] w fun e w' => e = .returned (.int .i64 (((by' s).takeWhile (· != 10)).length : Nat)) ∧ w' = w := by
  have HI := hid (Tryd.strings_IndexByte s 10 w)
  have hc : Lib.indexByte s.data.toList (10 : Int).toNat.toUInt8 = Lib.indexByte (by' s) 10 := rfl
  rw [hc] at HI
  have HT := hid (ib_tw (by' s) 10)
  generalize Lib.indexByte (by' s) 10 = n at HI HT
  have HL := hid (by_len s)
  generalize ((by' s).takeWhile (· != 10)).length = m at HT
  clear hc
  rcases HT.out with ⟨rfl, h2⟩ | ⟨h1, h2⟩
  · have HM : Hid (m = s.size) := h2.trans HL.out
    clear h2
    go_enter Tryd.func47, Tryd.ntmps47
    go_wp2_with fail
    refine HI.out.mono ?_
    rintro e w1 ⟨rfl, rfl⟩
    go_wp2_with fail
    go_ret
    exact ⟨by rw [HM.out]; rfl, rfl⟩
  · have HM := hid h2
    clear h2
    go_enter Tryd.func47, Tryd.ntmps47
    go_wp2_with fail
    refine HI.out.mono ?_
    rintro e w1 ⟨rfl, rfl⟩
    go_wp2_with fail
    go_ret
    exact ⟨by rw [HM.out]; rfl, rfl⟩
set_option maxHeartbeats 400000 in
theorem wordLen_any (s : ByteArray) (w : World) (hs : s.size ≤ 1000000) : Calls Tryd.prog 34 #[.string s] w fun e w' => e = .returned (.int .i64 (((by' s).takeWhile inWd).length : Nat)) ∧ w' = w := by
  have hnot : ∀ (x : Bool) (w : World), (Op.unary .not (.bool x)).run Tryd.prog w = .ok (.bool (!x)) w := fun _ _ => rfl
  have HIL := hid isletter_any
  have HID := hid isdigit_any
  obtain ⟨r, hr⟩ : ∃ r, r = ((by' s).takeWhile inWd).length := ⟨_, rfl⟩
  have HR := hid hr
  rw [← hr]
  clear hr
  go_enter Tryd.func34, Tryd.ntmps34
  go_wp2_with fail
  go_loop [7] (fun i => ∃ k : Nat, k ≤ s.size ∧ i = .int .i64 k ∧ Hid (∀ j, j < k → inWd ((by' s).getD j 0) = true)) (fun i => s.size - (intOf i).toNat)
  case atStart => exact ⟨0, Nat.zero_le _, rfl, fun j hj => by omega⟩
  case round =>
    obtain ⟨k, hk, rfl, HA⟩ := hrel
    by_cases hlt : k < s.size
    · have hlt2 : (k : Int) < (s.size : Int) := by omega
      have hwr : IntKind.i64.wrap ((k : Int) + 1) = (k : Int) + 1 := by rw [IntKind.wrap_i64]; omega
      obtain ⟨c, hc⟩ : ∃ c, s[k] = c := ⟨_, rfl⟩
      have HG : Hid ((by' s).getD k 0 = c) := (by_getD s k hlt).trans hc
      by_cases h1 : isLt c = true
      · have HN : Hid (inWd c = true) := by unfold Hid inWd; rw [h1]; simp
        go_wp2_with fail
        refine (HIL.out c w).mono ?_
        rintro e w1 ⟨rfl, rfl⟩
        rw [h1]
        go_wp2_with fail
        go_round
        case rel => exact ⟨k + 1, by omega, by go_num, fun j hj => by
            rcases Nat.lt_or_ge j k with g | g
            · exact HA.out j g
            · obtain rfl : j = k := by omega
              rw [HG.out]; exact HN.out⟩
        case measure => simp [intOf]; omega
      · have h1' : isLt c = false := by simpa using h1
        clear h1
        by_cases h2 : isDg c = true
        · have HN : Hid (inWd c = true) := by unfold Hid inWd; rw [h2]; simp
          go_wp2_with fail
          refine (HIL.out c w).mono ?_
          rintro e w1 ⟨rfl, rfl⟩
          rw [h1']
          go_wp2_with fail
          refine (HID.out c w1).mono ?_
          rintro e w2 ⟨rfl, rfl⟩
          rw [h2]
          go_wp2_with fail
          go_round
          case rel => exact ⟨k + 1, by omega, by go_num, fun j hj => by
              rcases Nat.lt_or_ge j k with g | g
              · exact HA.out j g
              · obtain rfl : j = k := by omega
                rw [HG.out]; exact HN.out⟩
          case measure => simp [intOf]; omega
        · have h2' : isDg c = false := by simpa using h2
          clear h2
          by_cases h3 : (c.toNat : Int) = 95
          · have HN : Hid (inWd c = true) := by
              unfold Hid inWd
              have : c = 95 := by apply UInt8.toNat_inj.1; show c.toNat = 95; omega
              rw [this]; decide
            have h3b : ((c.toNat : Int) != 95) = false := by rw [h3]; rfl
            clear h3
            go_wp2_with fail
            refine (HIL.out c w).mono ?_
            rintro e w1 ⟨rfl, rfl⟩
            rw [h1']
            go_wp2_with fail
            refine (HID.out c w1).mono ?_
            rintro e w2 ⟨rfl, rfl⟩
            rw [h2']
            go_wp2_with fail
            go_round
            case rel => exact ⟨k + 1, by omega, by go_num, fun j hj => by
                rcases Nat.lt_or_ge j k with g | g
                · exact HA.out j g
                · obtain rfl : j = k := by omega
                  rw [HG.out]; exact HN.out⟩
            case measure => simp [intOf]; omega
          · have HN : Hid (inWd c = false) := by
              unfold Hid inWd
              have : (c == 95) = false := by
                simp
                intro e
                subst e
                exact h3 rfl
              rw [h1', h2', this]; rfl
            have h3b : ((c.toNat : Int) != 95) = true := by simp [h3]
            go_wp2_with fail
            refine (HIL.out c w).mono ?_
            rintro e w1 ⟨rfl, rfl⟩
            rw [h1']
            go_wp2_with fail
            refine (HID.out c w1).mono ?_
            rintro e w2 ⟨rfl, rfl⟩
            rw [h2']
            go_wp2_with fail
            go_ret
            have hl := by_len s
            exact ⟨by rw [HR.out, tw_stop (by' s) k (by omega) HA.out (by rw [HG.out]; exact HN.out)]; rfl, rfl⟩
    · obtain rfl : k = s.size := by omega
      have hlt2 : ¬ (s.size : Int) < (s.size : Int) := by omega
      go_wp2_with fail
      go_ret
      have hl := by_len s
      exact ⟨by rw [HR.out, tw_all (by' s) (fun j hj => HA.out j (by omega)), hl]; rfl, rfl⟩

end Go.Proofs.YthpkcageimhgaaaDoor
