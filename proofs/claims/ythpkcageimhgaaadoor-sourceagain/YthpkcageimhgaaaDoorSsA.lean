/- Package source: functions asked by slices.ContainsFunc. -/
import Derived.Test.YthpkcageimhgaaaDoorSrZ
namespace Go.Proofs.YthpkcageimhgaaaDoor
open Go.RowKit Go.Shelf

set_option maxRecDepth 100000 in
set_option maxHeartbeats 1000000 in
theorem same1_any (F : Nat) (g : FnT) (nm : List UInt8) (a2 : Option Addr) (c b : Nat) (W : World) (hF : W.cell? ⟨F, 0, none⟩ = some (.string (bs nm))) :
    Calls Tryd.prog 24 #[.agg #[.string (bs g.name), .int .i64 (g.at' : Int), .slice a2 g.more.length c, .pointer (some ⟨b, 0, none⟩)], .pointer (some ⟨F, 0, none⟩)] W fun e w' => e = .returned (.bool (g.name == nm)) ∧ Below W.heap.size W w' := by
  have h1 := bs_list g.name
  have h2 := bs_list nm
  have hlt := World.block_lt_of_cell? _ _ hF
  have hF2 : (W.alloc (.cells #[.string (bs g.name), .int .i64 (g.at' : Int), .slice a2 g.more.length c, .pointer (some ⟨b, 0, none⟩)] 40)).cell? ⟨F, 0, none⟩ = some (.string (bs nm)) := (((Below.refl _ W).alloc (Nat.le_refl _) _).cell (p := ⟨F, 0, none⟩) hlt).trans hF
  have HB : Hid (Below W.heap.size W (W.alloc (.cells #[.string (bs g.name), .int .i64 (g.at' : Int), .slice a2 g.more.length c, .pointer (some ⟨b, 0, none⟩)] 40))) := (Below.refl _ W).alloc (Nat.le_refl _) _
  by_cases hx : g.name = nm
  · have t1 : (g.name == nm) = true := by simpa using hx
    rw [t1]
    clear hx
    go_enter Tryd.func24, Tryd.ntmps24
    go_wp2_with fail
    go_ret
    exact ⟨rfl, HB.out⟩
  · have t1 : (g.name == nm) = false := by simpa using hx
    rw [t1]
    clear hx
    go_enter Tryd.func24, Tryd.ntmps24
    go_wp2_with fail
    go_ret
    exact ⟨rfl, HB.out⟩

/-- the word main -/
def mainW : List UInt8 := [109, 97, 105, 110]
set_option maxRecDepth 100000 in
set_option maxHeartbeats 1000000 in
theorem isMain_any (g : FnT) (a2 : Option Addr) (c b : Nat) (W : World) :
    Calls Tryd.prog 26 #[.agg #[.string (bs g.name), .int .i64 (g.at' : Int), .slice a2 g.more.length c, .pointer (some ⟨b, 0, none⟩)]] W fun e w' => e = .returned (.bool (g.name == mainW)) ∧ Below W.heap.size W w' := by
  have h1 := bs_list g.name
  have h2 : (⟨#[109, 97, 105, 110]⟩ : ByteArray).toList = mainW := by kernel_rfl
  have HB : Hid (Below W.heap.size W (W.alloc (.cells #[.string (bs g.name), .int .i64 (g.at' : Int), .slice a2 g.more.length c, .pointer (some ⟨b, 0, none⟩)] 40))) := (Below.refl _ W).alloc (Nat.le_refl _) _
  generalize mainW = nm at *
  by_cases hx : g.name = nm
  · have t1 : (g.name == nm) = true := by simpa using hx
    rw [t1]
    clear hx
    go_enter Tryd.func26, Tryd.ntmps26
    go_wp2_with fail
    go_ret
    exact ⟨rfl, HB.out⟩
  · have t1 : (g.name == nm) = false := by simpa using hx
    rw [t1]
    clear hx
    go_enter Tryd.func26, Tryd.ntmps26
    go_wp2_with fail
    go_ret
    exact ⟨rfl, HB.out⟩

set_option maxRecDepth 100000 in
set_option maxHeartbeats 1000000 in
theorem indexF_any (F cap n : Nat) (caps : Array Value) (a : Option Addr) (fs : List FnT) (p : FnT → Bool) (w : World) (hn : n ≤ fs.length) (hlen : fs.length ≤ 4000) (hl : FnR 0 w a fs)
    (hcf : ∀ (args : Array Value) (w1 : World), (callFunc F args).run Tryd.prog w1 = .ok (.enter F args) w1)
    (HC : ∀ (W : World) (g : FnT) (a2 : Option Addr) (c b : Nat), Below w.heap.size w W → Calls Tryd.prog F (#[.agg #[.string (bs g.name), .int .i64 (g.at' : Int), .slice a2 g.more.length c, .pointer (some ⟨b, 0, none⟩)]] ++ caps) W fun e w' => e = .returned (.bool (p g)) ∧ Below W.heap.size W w') :
    Calls Tryd.prog 41 #[.slice a n cap, .func (.func F) #[] caps] w fun e w' => (∃ r : Int, e = .returned (.int .i64 r) ∧ decide (0 ≤ r) = (fs.take n).any p) ∧ Below w.heap.size w w' := by
  have HL := hid hl
  have HE1 := hid HC
  have HN := hid hn
  have HLN := hid hlen
  have hn2 : n ≤ 4000 := by omega
  clear hl HC hn hlen
  go_enter Tryd.func41, Tryd.ntmps41
  go_wp2_with fail
  go_loopw [8] (fun iv wr => ∃ k : Nat, k ≤ n ∧ iv = .int .i64 k ∧ Hid ((∀ j g, j < k → fs[j]? = some g → p g = false) ∧ Below w.heap.size w wr)) (fun iv _ => n - (intOf iv).toNat)
  case atStart => exact ⟨0, by omega, rfl, fun j _ hj => by omega, Below.refl _ _⟩
  case round =>
    obtain ⟨k, hk, rfl, hI⟩ := hrel
    by_cases hlt : k < n
    · have hlt2 : (k : Int) < (n : Int) := by omega
      have hks : IntKind.i64.wrap ((k : Int) + 1) = (k : Int) + 1 := by rw [IntKind.wrap_i64]; omega
      obtain ⟨g, hg⟩ : ∃ g, fs[k]? = some g := ⟨_, List.getElem?_eq_getElem (by have := HN.out; omega)⟩
      obtain ⟨kb, a2, c, b, rfl, _, d0, d1, d2, d3, _⟩ := HL.out k g hg
      have c0 := (hI.out.2.cell (p := ⟨kb, k * 4, none⟩) (World.block_lt_of_cell? _ _ d0)).trans d0
      have c1 := (hI.out.2.cell (p := ⟨kb, k * 4 + 1, none⟩) (World.block_lt_of_cell? _ _ d1)).trans d1
      have c2 := (hI.out.2.cell (p := ⟨kb, k * 4 + 2, none⟩) (World.block_lt_of_cell? _ _ d2)).trans d2
      have c3 := (hI.out.2.cell (p := ⟨kb, k * 4 + 3, none⟩) (World.block_lt_of_cell? _ _ d3)).trans d3
      have HX := HE1.out wr g a2 c b hI.out.2
      have HBI := hid hI.out.2
      clear d0 d1 d2 d3
      cases hb : p g with
      | false =>
        rw [hb] at HX
        have HXX := hid HX
        have HE : Hid (∀ j g, j < k + 1 → fs[j]? = some g → p g = false) := fun j g' hj hj2 => by
          by_cases e : j = k
          · rw [e, hg] at hj2; injection hj2 with hj2; rw [← hj2]; exact hb
          · exact hI.out.1 j g' (by omega) hj2
        clear hI HX hb hg
        go_wp2_with fail
        refine HXX.out.mono ?_
        rintro e w1 ⟨rfl, hb1⟩
        have HB1 := hid (HBI.out.trans (hb1.mono HBI.out.size))
        clear hb1
        go_wp2_with fail
        go_roundw
        case rel => exact ⟨k + 1, by omega, by go_num, HE, HB1.out⟩
        case measure => simp [intOf]; omega
      | true =>
        rw [hb] at HX
        have HXX := hid HX
        have HE : Hid ((fs.take n).any p = true) := List.any_eq_true.2 ⟨g, List.mem_of_getElem? (i := k) (by rw [List.getElem?_take_of_lt hlt]; exact hg), hb⟩
        clear hI HX hb hg
        go_wp2_with fail
        refine HXX.out.mono ?_
        rintro e w1 ⟨rfl, hb1⟩
        have HB1 := hid (HBI.out.trans (hb1.mono HBI.out.size))
        clear hb1
        go_wp2_with fail
        go_ret
        refine ⟨⟨(k : Int), rfl, ?_⟩, HB1.out⟩
        rw [HE.out]
        simp
    · obtain rfl : k = n := by omega
      have hlt2 : ¬ (k : Int) < (k : Int) := by omega
      have HE : Hid ((fs.take k).any p = false) := by
        unfold Hid
        rw [List.any_eq_false]
        intro x hx
        obtain ⟨j, hj⟩ := List.mem_iff_getElem?.1 hx
        have hjk : j < k := by
          rcases Nat.lt_or_ge j k with h | h
          · exact h
          · rw [List.getElem?_eq_none (by rw [List.length_take]; omega)] at hj; cases hj
        rw [List.getElem?_take_of_lt hjk] at hj
        simp [hI.out.1 j x hjk hj]
      have HBI := hid hI.out.2
      clear hI
      go_wp2_with fail
      go_ret
      refine ⟨⟨-1, rfl, ?_⟩, HBI.out⟩
      rw [HE.out]
      simp

set_option maxRecDepth 100000 in
theorem containsF_any (F cap n : Nat) (caps : Array Value) (a : Option Addr) (fs : List FnT) (p : FnT → Bool) (w : World) (hn : n ≤ fs.length) (hlen : fs.length ≤ 4000) (hl : FnR 0 w a fs)
    (hcf : ∀ (args : Array Value) (w1 : World), (callFunc F args).run Tryd.prog w1 = .ok (.enter F args) w1)
    (HC : ∀ (W : World) (g : FnT) (a2 : Option Addr) (c b : Nat), Below w.heap.size w W → Calls Tryd.prog F (#[.agg #[.string (bs g.name), .int .i64 (g.at' : Int), .slice a2 g.more.length c, .pointer (some ⟨b, 0, none⟩)]] ++ caps) W fun e w' => e = .returned (.bool (p g)) ∧ Below W.heap.size W w') :
    Calls Tryd.prog 23 #[.slice a n cap, .func (.func F) #[] caps] w fun e w' => e = .returned (.bool ((fs.take n).any p)) ∧ Below w.heap.size w w' := by
  have HI := hid (indexF_any F cap n caps a fs p w hn hlen hl hcf HC)
  clear hl hcf HC hn hlen
  generalize (fs.take n).any p = E at *
  go_enter Tryd.func23, Tryd.ntmps23
  go_wp2_with fail
  refine HI.out.mono ?_
  rintro e w1 ⟨⟨r, rfl, hr⟩, hb⟩
  have HRR := hid hr
  have HB := hid hb
  clear hr HI hb
  go_wp2_with fail
  go_ret
  exact ⟨by rw [← HRR.out]; rfl, HB.out⟩

end Go.Proofs.YthpkcageimhgaaaDoor
