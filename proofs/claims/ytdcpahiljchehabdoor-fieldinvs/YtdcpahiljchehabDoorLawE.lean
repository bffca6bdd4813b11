/- The law FieldInvs answers true for every input: of any list what makes 1 of each. -/
import Derived.Test.YtdcpahiljchehabDoorTold
import Derived.Test.YtdcpahiljchehabDoorInvsB
import Derived.Laws.AppendOwnNone
namespace Go.Proofs.YtdcpahiljchehabDoor
open Go.RowKit Go.Shelf

theorem rowZ_of_B {n0 : Nat} {w : World} {a : Option Addr} {zs : List Int} (cap : Nat) (h : RowB n0 w a zs) : RowZ w (.slice a zs.length cap) zs :=
  ⟨a, cap, rfl, fun k hk => by
    obtain ⟨b, o, h1, _, h3⟩ := h k hk
    exact ⟨b, o, h1, h3⟩⟩

/-- a new list that is owned can be read -/
theorem rowB_of_owns {w : World} {base : Nat} {v : Value} {zs : List Int} (h : w.ownsRow base 3 1 v zs.length (zs.map (Value.int .i64))) : ∃ a cap, v = .slice a zs.length cap ∧ RowB w.heap.size w a zs := by
  rcases h.2 with ⟨h1, h2⟩ | ⟨g, cap, cur, hv, _, hg, _⟩
  · refine ⟨none, 0, by rw [h1, h2], fun k hk => by omega⟩
  · refine ⟨some ⟨g, 0, none⟩, cap, hv, fun k hk => ⟨g, 0, rfl, (Array.getElem?_eq_some_iff.1 hg).1, ?_⟩⟩
    have := h.cells (g := g) (by rw [hv]; rfl) k (.int .i64 (zat zs k)) (by simp [zat, hk])
    have hadd : (⟨g, 0, none⟩ : Addr).add k = ⟨g, k, none⟩ := by unfold Addr.add; split <;> simp_all
    rw [hadd] at this
    rw [Nat.zero_add]
    exact this

set_option maxRecDepth 100000 in
set_option maxHeartbeats 1000000 in
theorem invs_walk (p : Int) (a : Option Addr) (cap : Nat) (zs : List Int) (w : World) (hL : Laid w) (hp1 : -9223372036854775808 ≤ p) (hp2 : p ≤ 9223372036854775807)
    (hlen : zs.length * 8 ≤ 140737488351232) (hzs : ∀ j, j < zs.length → -9223372036854775808 ≤ zat zs j ∧ zat zs j ≤ 9223372036854775807) (hrow : RowB w.heap.size w a zs) (hnil : a = none → zs.length = 0 ∧ cap = 0) :
    Calls Tryd.prog 3 #[.int .i64 p, .slice a zs.length cap] w fun e w' => e = .returned (.bool true) ∧ Below w.heap.size w w' := by
  by_cases hok : okPrime p
  · obtain ⟨q, rfl⟩ := Int.eq_ofNat_of_zero_le (show 0 ≤ p by have := hok.1; omega)
    obtain ⟨hq3, hq4, hqp⟩ := hok
    rw [Int.toNat_natCast] at hqp
    have h3 : 3 ≤ q := by omega
    have h4 : q ≤ 2147483647 := by omega
    have HP := hid hqp
    have HZ := hid hzs
    have HR := hid hrow
    have HN := hid hnil
    clear hqp hL hzs hrow hnil
    obtain ⟨i0, hi, hz0, hz1, hz2⟩ := info_parts intInfo
    have HNEWS : Hid (∀ (w1 : World) (ad : Addr), a = some ad → Below w.heap.size w w1 → ∀ j u, (zs.map (Value.int .i64))[j]? = some u → (w1.alloc (.cells #[] 3)).cell? (ad.add j) = some u) := by
      intro w1 ad ha hb j u hu
      have hj : j < zs.length := by
        rcases Nat.lt_or_ge j zs.length with g | g
        · exact g
        · simp [g] at hu
      obtain ⟨b, o, h1, h2, h5⟩ := HR.out j hj
      rw [ha] at h1
      cases h1
      have hadd : (⟨b, o, none⟩ : Addr).add j = ⟨b, o + j, none⟩ := by unfold Addr.add; split <;> simp_all
      rw [hadd, World.cell?_alloc_lt _ _ ⟨b, o + j, none⟩ (by have := hb.size; simp; omega)]
      refine ((hb.cell (p := ⟨b, o + j, none⟩) h2).trans h5).trans ?_
      simp [zat, hj] at hu ⊢
      exact hu
    have HREST : Hid (∀ (ow : Value) (w1 w2 : World), Below w.heap.size w w1 → w1.cell? ⟨w.heap.size, 0, none⟩ = some (.int .i64 q) → w.heap.size < w1.heap.size → w2.ownsRow w1.heap.size 3 1 ow zs.length (zs.map (Value.int .i64)) → Below w1.heap.size w1 w2 → 
        ∃ a2 c2, ow = .slice a2 zs.length c2 ∧ RowB w2.heap.size w2 a2 zs ∧ w2.cell? ⟨w.heap.size, 0, none⟩ = some (.int .i64 q) ∧ Below w.heap.size w w2 ∧ w.heap.size < w2.heap.size) := by
      intro ow w1 w2 h1 h2 h5 h6 h7
      obtain ⟨a2, c2, e1, e2⟩ := rowB_of_owns h6
      have := h7.size
      exact ⟨a2, c2, e1, e2, (h7.cell (p := ⟨w.heap.size, 0, none⟩) h5).trans h2, h1.trans (h7.mono h1.size), by omega⟩
    have HOWN : Hid (∀ w1 : World, (w1.alloc (.cells #[] 3)).ownsRow w1.heap.size 3 1 (.slice (some ⟨w1.heap.size, 0, none⟩) 0 0) 0 []) :=
      fun w1 => World.ownsRow_made (size := 1) w1 #[] 0 (Nat.le_refl _) (by unfold maxLen; omega) (by simp)
    cases a with
    | none =>
      obtain ⟨hz0', rfl⟩ := HN.out rfl
      obtain rfl : zs = [] := List.length_eq_zero_iff.1 hz0'
      go_enter Tryd.func3, Tryd.ntmps3
      go_wp2_with fail
      refine (field_yes q w h3 h4 HP.out).mono ?_
      rintro e w1 ⟨rfl, hc1, hb1, hlt1⟩
      have HB1 := hid hb1
      have hsz1 := hb1.size
      clear hb1
      go_wp2_with (at_builtin; refine wpList_append_own_none rfl _ _ 22 rfl w1.heap.size 3 i0 1 Tryd.underlying22 hi _ _ _ rfl (HOWN.out w1) rfl ?_)
      have hc2 : (w1.alloc (.cells #[] 3)).cell? ⟨w.heap.size, 0, none⟩ = some (.int .i64 q) := by
        rw [World.cell?_alloc_lt _ _ ⟨w.heap.size, 0, none⟩ hlt1]; exact hc1
      have HB2 := hid (HB1.out.alloc (by omega) (.cells #[] 3))
      have HC2 := hid hc2
      clear hc2
      go_wp2_with fail
      refine (invs_any q w.heap.size 0 (some ⟨w1.heap.size, 0, none⟩) [] _ HP.out h3 h4 HC2.out (by simp) (fun j hj => by simp at hj) (fun k hk => by simp at hk)).mono ?_
      rintro e w3 ⟨o, rfl, ho, hout, hb3⟩
      have HB3 : Hid (Below w.heap.size w w3) := HB2.out.trans (hb3.mono HB2.out.size)
      clear ho hout hb3
      go_wp2_with fail
      refine (ints_any [] [] _ _ w3 ⟨_, _, rfl, fun k hk => by simp at hk⟩ ⟨_, _, rfl, fun k hk => by simp at hk⟩ (by simp) (by simp)).mono ?_
      rintro e w4 ⟨rfl, n, rfl⟩
      go_wp2_with fail
      go_loop [10] (fun iv => iv = .int .i64 0) (fun _ => 0)
      case atStart => exact rfl
      case round =>
        obtain rfl := hrel
        go_wp2_with fail
        go_ret
        exact ⟨rfl, below_drewN HB3.out n⟩
    | some ad =>
      go_enter Tryd.func3, Tryd.ntmps3
      go_wp2_with fail
      refine (field_yes q w h3 h4 HP.out).mono ?_
      rintro e w1 ⟨rfl, hc1, hb1, hlt1⟩
      have HB1 := hid hb1
      have hsz1 := hb1.size
      clear hb1
      go_wp2_with (at_builtin; refine wpList_append_own _ rfl _ _ 22 rfl w1.heap.size 3 i0 (.int .i64 0) 1 8 Tryd.underlying22 hi hz0 hz1 hz2 rfl (by decide) _ _ _ rfl (HOWN.out w1) ad zs.length cap (zs.map (Value.int .i64)) rfl ?c0 ?c1 ?c2 ?c3 ?c4 ?c5 ?_)
      case c0 => simp
      case c1 => exact HNEWS.out w1 ad rfl HB1.out
      case c2 => intro u hu; obtain ⟨y, _, rfl⟩ := List.mem_map.1 hu; rfl
      case c3 => unfold maxLen; omega
      case c4 => omega
      case c5 => simp
      intro ow w2 hown2 hgrow _
      obtain ⟨a2, c2, rfl, hrow2, hc2, hbel2, hlt2⟩ := HREST.out ow w1 w2 HB1.out hc1 hlt1 hown2 (((Below.refl _ _).alloc (Nat.le_refl _) _).grown hgrow (by simp) (fun k hk => ((HOWN.out w1).lt k hk).1))
      clear hown2 hgrow
      have hbelw := hbel2
      have HB2 := hid hbel2
      have HR2 := hid hrow2
      clear hbel2 hrow2 hbelw
      go_wp2_with fail
      refine (invs_any q w.heap.size c2 a2 zs w2 HP.out h3 h4 hc2 (by omega) HZ.out HR2.out).mono ?_
      rintro e w3 ⟨o, rfl, ho, hout, hb3⟩
      have HB3 : Hid (Below w.heap.size w w3) := HB2.out.trans (hb3.mono HB2.out.size)
      have HRA := hid (rowZ_of_B c2 (RowB.below hb3 HR2.out))
      have HRL := hid (RowB.below HB3.out HR.out)
      have HO := hid ho
      have HOUT := hid hout
      clear ho hout hb3
      go_wp2_with fail
      refine (ints_any zs zs _ _ w3 HRA.out (rowZ_of_B cap HRL.out) (by omega) (by omega)).mono ?_
      rintro e w4 ⟨rfl, n, rfl⟩
      rw [decide_eq_true (rfl : zs = zs)]
      go_wp2_with fail
      go_loop [10] (fun iv => ∃ k : Nat, k ≤ zs.length ∧ iv = .int .i64 k) (fun iv => zs.length - (intOf iv).toNat)
      case atStart => exact ⟨0, Nat.zero_le _, rfl⟩
      case round =>
        obtain ⟨k, hk, rfl⟩ := hrel
        by_cases hlt : k < zs.length
        · have hltk : (k : Int) < (zs.length : Int) := by omega
          obtain ⟨bl, ol, hae, hbl, hcl⟩ := HRL.out k hlt
          cases hae
          have hcx := HOUT.out.cells k hlt
          rw [HO.out k hlt] at hcx
          obtain ⟨hx1, hx2⟩ := HZ.out k hlt
          generalize zat zs k = z at *
          go_wp2_with fail
          refine (rinv_any q z _ h3 h4 hx1 hx2).mono ?_
          rintro e w5 ⟨rfl, rfl⟩
          have hneq : (((invn q z : Nat) : Int) != ((invn q z : Nat) : Int)) = false := by simp
          go_wp2_with fail
          go_round
          case rel => exact ⟨k + 1, by omega, by go_num⟩
          case measure => simp [intOf]; omega
        · have hltk : ¬ (k : Int) < (zs.length : Int) := by omega
          go_wp2_with fail
          go_ret
          exact ⟨rfl, below_drewN HB3.out n⟩
  · have HN := hid hok
    clear hok hzs hrow hnil
    go_enter Tryd.func3, Tryd.ntmps3
    go_wp2_with fail
    refine (field_no p w hL HN.out hp1 hp2).mono ?_
    rintro e w1 ⟨rfl, hb1⟩
    have HB1 := hid hb1
    clear hb1
    go_wp2_with fail
    go_ret
    exact ⟨rfl, HB1.out⟩

end Go.Proofs.YtdcpahiljchehabDoor
