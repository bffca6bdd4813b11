/- Package source: functions asked by slices.ContainsFunc. Programs as text: tokens as they are spelled. The reference of programs as text: bytes, the next token. -/
import Derived.Test.YthemehdcakimgaiGreatDoorSrZ
import Derived.Test.YthemehdcakimgaiGreatDoorBgAA
import Derived.Test.YthemehdcakimgaiGreatDoorBgAC
namespace Go.Proofs.YthemehdcakimgaiGreatDoor
open Go.RowKit Go.Shelf

set_option maxRecDepth 100000 in
set_option maxHeartbeats 1000000 in
theorem same1_any (F : Nat) (g : FnT) (nm : List UInt8) (a2 : Option Addr) (c b : Nat) (W : World) (hF : W.cell? ⟨F, 0, none⟩ = some (.string (bs nm))) :
    Calls Tryz.prog 49 #[.agg #[.string (bs g.name), .int .i64 (g.at' : Int), .slice a2 g.more.length c, .pointer (some ⟨b, 0, none⟩)], .pointer (some ⟨F, 0, none⟩)] W fun e w' => e = .returned (.bool (g.name == nm)) ∧ Below W.heap.size W w' := by
  have h1 := bs_list g.name
  have h2 := bs_list nm
  have hlt := World.block_lt_of_cell? _ _ hF
  have hF2 : (W.alloc (.cells #[.string (bs g.name), .int .i64 (g.at' : Int), .slice a2 g.more.length c, .pointer (some ⟨b, 0, none⟩)] 54)).cell? ⟨F, 0, none⟩ = some (.string (bs nm)) := (((Below.refl _ W).alloc (Nat.le_refl _) _).cell (p := ⟨F, 0, none⟩) hlt).trans hF
  have HB : Hid (Below W.heap.size W (W.alloc (.cells #[.string (bs g.name), .int .i64 (g.at' : Int), .slice a2 g.more.length c, .pointer (some ⟨b, 0, none⟩)] 54))) := (Below.refl _ W).alloc (Nat.le_refl _) _
  by_cases hx : g.name = nm
  · have t1 : (g.name == nm) = true := by simpa using hx
    rw [t1]
    clear hx
    go_enter Tryz.func49, Tryz.ntmps49
    go_wp2_with fail
    go_ret
    exact ⟨rfl, HB.out⟩
  · have t1 : (g.name == nm) = false := by simpa using hx
    rw [t1]
    clear hx
    go_enter Tryz.func49, Tryz.ntmps49
    go_wp2_with fail
    go_ret
    exact ⟨rfl, HB.out⟩

/-- the word main -/
def mainW : List UInt8 := [109, 97, 105, 110]
set_option maxRecDepth 100000 in
set_option maxHeartbeats 1000000 in
theorem isMain_any (g : FnT) (a2 : Option Addr) (c b : Nat) (W : World) :
    Calls Tryz.prog 51 #[.agg #[.string (bs g.name), .int .i64 (g.at' : Int), .slice a2 g.more.length c, .pointer (some ⟨b, 0, none⟩)]] W fun e w' => e = .returned (.bool (g.name == mainW)) ∧ Below W.heap.size W w' := by
  have h1 := bs_list g.name
  have h2 : (⟨#[109, 97, 105, 110]⟩ : ByteArray).toList = mainW := by kernel_rfl
  have HB : Hid (Below W.heap.size W (W.alloc (.cells #[.string (bs g.name), .int .i64 (g.at' : Int), .slice a2 g.more.length c, .pointer (some ⟨b, 0, none⟩)] 54))) := (Below.refl _ W).alloc (Nat.le_refl _) _
  generalize mainW = nm at *
  by_cases hx : g.name = nm
  · have t1 : (g.name == nm) = true := by simpa using hx
    rw [t1]
    clear hx
    go_enter Tryz.func51, Tryz.ntmps51
    go_wp2_with fail
    go_ret
    exact ⟨rfl, HB.out⟩
  · have t1 : (g.name == nm) = false := by simpa using hx
    rw [t1]
    clear hx
    go_enter Tryz.func51, Tryz.ntmps51
    go_wp2_with fail
    go_ret
    exact ⟨rfl, HB.out⟩

set_option maxRecDepth 100000 in
set_option maxHeartbeats 1000000 in
theorem indexF_any (F cap n : Nat) (caps : Array Value) (a : Option Addr) (fs : List FnT) (p : FnT → Bool) (w : World) (hn : n ≤ fs.length) (hlen : fs.length ≤ 4000) (hl : FnR 0 w a fs)
    (hcf : ∀ (args : Array Value) (w1 : World), (callFunc F args).run Tryz.prog w1 = .ok (.enter F args) w1)
    (HC : ∀ (W : World) (g : FnT) (a2 : Option Addr) (c b : Nat), Below w.heap.size w W → Calls Tryz.prog F (#[.agg #[.string (bs g.name), .int .i64 (g.at' : Int), .slice a2 g.more.length c, .pointer (some ⟨b, 0, none⟩)]] ++ caps) W fun e w' => e = .returned (.bool (p g)) ∧ Below W.heap.size W w') :
    Calls Tryz.prog 76 #[.slice a n cap, .func (.func F) #[] caps] w fun e w' => (∃ r : Int, e = .returned (.int .i64 r) ∧ decide (0 ≤ r) = (fs.take n).any p) ∧ Below w.heap.size w w' := by
  have HL := hid hl
  have HE1 := hid HC
  have HN := hid hn
  have HLN := hid hlen
  have hn2 : n ≤ 4000 := by omega
  clear hl HC hn hlen
  go_enter Tryz.func76, Tryz.ntmps76
  go_wp2_with fail
  go_loopw [8] (fun iv wr => ∃ k : Nat, k ≤ n ∧ iv = .int .i64 k ∧ Hid ((∀ j g, j < k → fs[j]? = some g → p g = false) ∧ Below w.heap.size w wr)) (fun iv _ => n - (intOf iv).toNat)
  case atStart => exact ⟨0, by omega, rfl, fun j _ hj => by omega, Below.refl _ _⟩
  case round =>
    obtain ⟨k, hk, rfl, hI⟩ := hrel
    by_cases hlt : k < n
    · have hlt2 : (k : Int) < (n : Int) := by omega
      have hks : IntKind.i64.wrap ((k : Int) + 1) = (k : Int) + 1 := by rw [IntKind.wrap_i64]; omega
      obtain ⟨g, hg⟩ : ∃ g, fs[k]? = some g := ⟨_, List.getElem?_eq_getElem (by have := HN.out; omega)⟩
      obtain ⟨kb, a2, c, b, rfl, _, d0, d1, d2, d3, _⟩ := HL.out k g hg
      have c0 := (hI.out.2.cell (p := ⟨kb, k * 4, none⟩) (World.block_lt_of_cell? _ _ d0)).trans d0
      have c1 := (hI.out.2.cell (p := ⟨kb, k * 4 + 1, none⟩) (World.block_lt_of_cell? _ _ d1)).trans d1
      have c2 := (hI.out.2.cell (p := ⟨kb, k * 4 + 2, none⟩) (World.block_lt_of_cell? _ _ d2)).trans d2
      have c3 := (hI.out.2.cell (p := ⟨kb, k * 4 + 3, none⟩) (World.block_lt_of_cell? _ _ d3)).trans d3
      have HX := HE1.out wr g a2 c b hI.out.2
      have HBI := hid hI.out.2
      clear d0 d1 d2 d3
      cases hb : p g with
      | false =>
        rw [hb] at HX
        have HXX := hid HX
        have HE : Hid (∀ j g, j < k + 1 → fs[j]? = some g → p g = false) := fun j g' hj hj2 => by
          by_cases e : j = k
          · rw [e, hg] at hj2; injection hj2 with hj2; rw [← hj2]; exact hb
          · exact hI.out.1 j g' (by omega) hj2
        clear hI HX hb hg
        go_wp2_with fail
        refine HXX.out.mono ?_
        rintro e w1 ⟨rfl, hb1⟩
        have HB1 := hid (HBI.out.trans (hb1.mono HBI.out.size))
        clear hb1
        go_wp2_with fail
        go_roundw
        case rel => exact ⟨k + 1, by omega, by go_num, HE, HB1.out⟩
        case measure => simp [intOf]; omega
      | true =>
        rw [hb] at HX
        have HXX := hid HX
        have HE : Hid ((fs.take n).any p = true) := List.any_eq_true.2 ⟨g, List.mem_of_getElem? (i := k) (by rw [List.getElem?_take_of_lt hlt]; exact hg), hb⟩
        clear hI HX hb hg
        go_wp2_with fail
        refine HXX.out.mono ?_
        rintro e w1 ⟨rfl, hb1⟩
        have HB1 := hid (HBI.out.trans (hb1.mono HBI.out.size))
        clear hb1
        go_wp2_with fail
        go_ret
        refine ⟨⟨(k : Int), rfl, ?_⟩, HB1.out⟩
        rw [HE.out]
        simp
    · obtain rfl : k = n := by omega
      have hlt2 : ¬ (k : Int) < (k : Int) := by omega
      have HE : Hid ((fs.take k).any p = false) := by
        unfold Hid
        rw [List.any_eq_false]
        intro x hx
        obtain ⟨j, hj⟩ := List.mem_iff_getElem?.1 hx
        have hjk : j < k := by
          rcases Nat.lt_or_ge j k with h | h
          · exact h
          · rw [List.getElem?_eq_none (by rw [List.length_take]; omega)] at hj; cases hj
        rw [List.getElem?_take_of_lt hjk] at hj
        simp [hI.out.1 j x hjk hj]
      have HBI := hid hI.out.2
      clear hI
      go_wp2_with fail
      go_ret
      refine ⟨⟨-1, rfl, ?_⟩, HBI.out⟩
      rw [HE.out]
      simp

set_option maxRecDepth 100000 in
theorem containsF_any (F cap n : Nat) (caps : Array Value) (a : Option Addr) (fs : List FnT) (p : FnT → Bool) (w : World) (hn : n ≤ fs.length) (hlen : fs.length ≤ 4000) (hl : FnR 0 w a fs)
    (hcf : ∀ (args : Array Value) (w1 : World), (callFunc F args).run Tryz.prog w1 = .ok (.enter F args) w1)
    (HC : ∀ (W : World) (g : FnT) (a2 : Option Addr) (c b : Nat), Below w.heap.size w W → Calls Tryz.prog F (#[.agg #[.string (bs g.name), .int .i64 (g.at' : Int), .slice a2 g.more.length c, .pointer (some ⟨b, 0, none⟩)]] ++ caps) W fun e w' => e = .returned (.bool (p g)) ∧ Below W.heap.size W w') :
    Calls Tryz.prog 48 #[.slice a n cap, .func (.func F) #[] caps] w fun e w' => e = .returned (.bool ((fs.take n).any p)) ∧ Below w.heap.size w w' := by
  have HI := hid (indexF_any F cap n caps a fs p w hn hlen hl hcf HC)
  clear hl hcf HC hn hlen
  generalize (fs.take n).any p = E at *
  go_enter Tryz.func48, Tryz.ntmps48
  go_wp2_with fail
  refine HI.out.mono ?_
  rintro e w1 ⟨⟨r, rfl, hr⟩, hb⟩
  have HRR := hid hr
  have HB := hid hb
  clear hr HI hb
  go_wp2_with fail
  go_ret
  exact ⟨by rw [← HRR.out]; rfl, HB.out⟩

end Go.Proofs.YthemehdcakimgaiGreatDoor

namespace Go.Proofs.YthemehdcakimgaiGreatDoor

/-- the sign or word of a kind -/
def spll : Nat → List UInt8
  | 4 => [102, 110]
  | 5 => [108, 101, 116]
  | 6 => [110, 101, 101, 100]
  | 7 => [105, 102]
  | 8 => [116, 104, 101, 110]
  | 9 => [101, 108, 115, 101]
  | 10 => [40]
  | 11 => [41]
  | 12 => [44]
  | 13 => [59]
  | 14 => [61]
  | 15 => [61, 61]
  | 16 => [43]
  | 17 => [45]
  | 18 => [42]
  | 19 => [47]
  | _ => []
/-- a sign stands first that is none -/
def tkb (L : List UInt8) (a : Nat) : Bool := decide (blank (L.drop a) ≠ []) && decide ((blank (L.drop a)).takeWhile inWd = []) && decide ((sgn (blank (L.drop a))).1 = 0)
theorem tkb_kind {L : List UInt8} {a : Nat} (h : tkb L a = true) : (tok L a).kind = 0 := by
  unfold tkb at h
  simp at h
  obtain ⟨⟨h1, h2⟩, h3⟩ := h
  unfold tok tokR
  rw [if_neg h1, if_neg (by simpa using h2)]
  exact h3
theorem kwd_spl (t : List UInt8) (k : Nat) (h4 : 4 ≤ k) (h9 : k ≤ 9) : kwd t = k ↔ t = spll k := by
  have hk : k = 4 ∨ k = 5 ∨ k = 6 ∨ k = 7 ∨ k = 8 ∨ k = 9 := by omega
  unfold kwd
  constructor
  · intro h
    rcases hk with rfl | rfl | rfl | rfl | rfl | rfl <;> (repeat' split at h) <;> first | (simp at h; done) | assumption | omega
  · intro h
    subst h
    rcases hk with rfl | rfl | rfl | rfl | rfl | rfl <;> decide
theorem spl_first {k : Nat} (h4 : 4 ≤ k) (h9 : k ≤ 9) : ∃ c r, spll k = c :: r ∧ isLt c = true := by
  have hk : k = 4 ∨ k = 5 ∨ k = 6 ∨ k = 7 ∨ k = 8 ∨ k = 9 := by omega
  rcases hk with rfl | rfl | rfl | rfl | rfl | rfl <;> exact ⟨_, _, rfl, by decide⟩
theorem wkd_spl (t : List UInt8) (k : Nat) (h4 : 4 ≤ k) (h9 : k ≤ 9) : wkd t = k ↔ t = spll k := by
  obtain ⟨c, r, e, hc⟩ := spl_first h4 h9
  cases t with
  | nil =>
    rw [e]
    constructor
    · intro h
      have : wkd [] = 0 := rfl
      omega
    · intro h; cases h
  | cons x y =>
    rw [wkd]
    by_cases hx : isLt x = true
    · rw [if_pos hx]
      exact kwd_spl _ _ h4 h9
    · rw [if_neg hx]
      constructor
      · intro h
        repeat' split at h
        all_goals omega
      · intro h
        rw [e] at h
        injection h with h1 h2
        rw [h1] at hx
        exact absurd hc hx
theorem inWd_spl {k : Nat} (h4 : 10 ≤ k) (h9 : k ≤ 19) : ∃ c r, spll k = c :: r ∧ inWd c = false := by
  have hk : k = 10 ∨ k = 11 ∨ k = 12 ∨ k = 13 ∨ k = 14 ∨ k = 15 ∨ k = 16 ∨ k = 17 ∨ k = 18 ∨ k = 19 := by omega
  rcases hk with rfl | rfl | rfl | rfl | rfl | rfl | rfl | rfl | rfl | rfl <;> exact ⟨_, _, rfl, by decide⟩
theorem spl_wd {k : Nat} (h4 : 4 ≤ k) (h9 : k ≤ 9) : (spll k).all inWd = true := by
  have hk : k = 4 ∨ k = 5 ∨ k = 6 ∨ k = 7 ∨ k = 8 ∨ k = 9 := by omega
  rcases hk with rfl | rfl | rfl | rfl | rfl | rfl <;> decide
def sg1 (c : UInt8) : Nat := if c = 40 then 10 else if c = 41 then 11 else if c = 44 then 12 else if c = 59 then 13 else if c = 43 then 16 else if c = 45 then 17 else if c = 42 then 18 else if c = 47 then 19 else 0
theorem sg1_to (c : UInt8) (k : Nat) (h : sg1 c = k) (h1 : 10 ≤ k) : [c] = spll k := by
  unfold sg1 at h
  repeat' split at h
  all_goals subst h
  all_goals first | (rename_i e; rw [e]; rfl) | omega
theorem sg1_of (c : UInt8) (k : Nat) (h : [c] = spll k) (h1 : 10 ≤ k) (h2 : k ≤ 19) (h61 : ¬ c = 61) : sg1 c = k := by
  have hk : k = 10 ∨ k = 11 ∨ k = 12 ∨ k = 13 ∨ k = 14 ∨ k = 15 ∨ k = 16 ∨ k = 17 ∨ k = 18 ∨ k = 19 := by omega
  rcases hk with rfl | rfl | rfl | rfl | rfl | rfl | rfl | rfl | rfl | rfl <;> (injection h with h h'; first | (cases h'; done) | (subst h; rfl) | exact absurd h h61)
theorem sgn_one {c : UInt8} (r : List UInt8) (h : ¬ c = 61) : sgn (c :: r) = (sg1 c, 1) := by
  unfold sgn sg1
  simp only [if_neg h]
theorem sgn_eq (r : List UInt8) : sgn (61 :: r) = (15, 2) ∧ (∃ r', r = 61 :: r') ∨ sgn (61 :: r) = (14, 1) := by
  unfold sgn
  simp only [if_true]
  split
  · exact Or.inl ⟨rfl, _, rfl⟩
  · exact Or.inr rfl
theorem spl_ne14 {k : Nat} (h1 : 10 ≤ k) (h2 : k ≤ 19) (h : spll k = [61]) : k = 14 := by
  have hk : k = 10 ∨ k = 11 ∨ k = 12 ∨ k = 13 ∨ k = 14 ∨ k = 15 ∨ k = 16 ∨ k = 17 ∨ k = 18 ∨ k = 19 := by omega
  rcases hk with rfl | rfl | rfl | rfl | rfl | rfl | rfl | rfl | rfl | rfl <;> first | rfl | (exact absurd h (by decide))
theorem spl_ne15 {k : Nat} (h1 : 10 ≤ k) (h2 : k ≤ 19) (h : spll k = [61, 61]) : k = 15 := by
  have hk : k = 10 ∨ k = 11 ∨ k = 12 ∨ k = 13 ∨ k = 14 ∨ k = 15 ∨ k = 16 ∨ k = 17 ∨ k = 18 ∨ k = 19 := by omega
  rcases hk with rfl | rfl | rfl | rfl | rfl | rfl | rfl | rfl | rfl | rfl <;> first | rfl | (exact absurd h (by decide))
theorem sgn_spl (r : List UInt8) (hr : r ≠ []) (k : Nat) (h1 : 10 ≤ k) (h2 : k ≤ 19) : (sgn r).1 = k ↔ r.take (sgn r).2 = spll k := by
  cases r with
  | nil => exact absurd rfl hr
  | cons c r =>
    by_cases e : c = 61
    · subst e
      rcases sgn_eq r with ⟨e1, r', rfl⟩ | e1
      · rw [e1]
        show 15 = k ↔ [61, 61] = spll k
        exact ⟨fun h => by subst h; rfl, fun h => (spl_ne15 h1 h2 h.symm).symm⟩
      · rw [e1]
        show 14 = k ↔ [61] = spll k
        exact ⟨fun h => by subst h; rfl, fun h => (spl_ne14 h1 h2 h.symm).symm⟩
    · rw [sgn_one r e]
      exact ⟨fun h => sg1_to c k h h1, fun h => sg1_of c k h h1 h2 e⟩
/-- what a token is, is how it is spelled -/
theorem tok_spl (L : List UInt8) (a k : Nat) (h4 : 4 ≤ k) (h19 : k ≤ 19) : (tok L a).kind = k ↔ (tok L a).text = spll k := by
  unfold tok
  generalize blank (L.drop a) = r
  unfold tokR
  by_cases hr : r = []
  · rw [if_pos hr]
    constructor
    · intro h
      have h : (1 : Nat) = k := h
      omega
    · intro h
      have h : [] = spll k := h
      rcases Nat.lt_or_ge k 10 with h9 | h9
      · obtain ⟨c, r, e, _⟩ := spl_first h4 (by omega)
        rw [e] at h; cases h
      · obtain ⟨c, r, e, _⟩ := inWd_spl h9 h19
        rw [e] at h; cases h
  · rw [if_neg hr]
    by_cases hw : r.takeWhile inWd ≠ []
    · rw [if_pos hw]
      show wkd (r.takeWhile inWd) = k ↔ r.takeWhile inWd = spll k
      rcases Nat.lt_or_ge k 10 with h9 | h9
      · exact wkd_spl _ k h4 (by omega)
      · constructor
        · intro h
          have := (wkd_ne (r.takeWhile inWd)).2
          omega
        · intro h
          obtain ⟨c, r', e, hc⟩ := inWd_spl h9 h19
          rw [e] at h
          have h2 : c ∈ r.takeWhile inWd := by rw [h]; exact List.mem_cons_self
          have h3 := List.all_eq_true.1 (List.all_takeWhile (l := r) (p := inWd)) c h2
          rw [hc] at h3; cases h3
    · rw [if_neg hw]
      show (sgn r).1 = k ↔ r.take (sgn r).2 = spll k
      rcases Nat.lt_or_ge k 10 with h9 | h9
      · constructor
        · intro h
          have := (sgn_two r).1.2.1
          omega
        · intro h
          have hw' : r.takeWhile inWd = [] := by simpa using hw
          obtain ⟨c, r', e, hc⟩ := spl_first h4 (by omega)
          have hcw : inWd c = true := by unfold inWd; rw [hc]; simp
          cases r with
          | nil => exact absurd rfl hr
          | cons x y =>
            have h1 := (sgn_two (x :: y)).2.1
            obtain ⟨m, hm⟩ : ∃ m, (sgn (x :: y)).2 = m + 1 := ⟨(sgn (x :: y)).2 - 1, by omega⟩
            rw [hm, List.take_succ_cons, e] at h
            injection h with h _
            rw [h, List.takeWhile_cons, hcw] at hw'
            cases hw'
      · exact sgn_spl r hr k h9 h19
theorem tok_end (L : List UInt8) (a : Nat) (h : a ≤ L.length) : (tok L a).kind = 1 ↔ (tok L a).text = [] := by
  have h1 := tok_at L a h
  constructor
  · intro h2; exact (h1.2.2.2.2 h2).1
  · intro h2
    apply Classical.byContradiction
    intro h3
    have := h1.2.2.2.1 h3
    unfold Tok.nx at this
    rw [h2] at this
    simp at this
theorem tok_word (L : List UInt8) (a : Nat) : (tok L a).kind = 2 ∨ (tok L a).kind = 3 → wkd (tok L a).text = (tok L a).kind := by
  intro h
  unfold tok at h ⊢
  generalize blank (L.drop a) = r at h ⊢
  unfold tokR at h ⊢
  by_cases hr : r = []
  · rw [if_pos hr] at h
    have h : (1 : Nat) = 2 ∨ (1 : Nat) = 3 := h
    omega
  · rw [if_neg hr] at h ⊢
    by_cases hw : r.takeWhile inWd ≠ []
    · rw [if_pos hw] at h ⊢
    · rw [if_neg hw] at h
      have h : (sgn r).1 = 2 ∨ (sgn r).1 = 3 := h
      have := (sgn_two r).1.2.1
      omega
/-- a token that is no word but stands: its kind is not that of one -/
theorem tok_not (L : List UInt8) (a : Nat) (hb : tkb L a = false) : ((tok L a).kind = wkd (tok L a).text ∧ (tok L a).text.all inWd = true ∧ (tok L a).text ≠ []) ∨ ((tok L a).kind = 1 ∧ (tok L a).text = []) ∨ (10 ≤ (tok L a).kind ∧ ∃ c r, (tok L a).text = c :: r ∧ inWd c = false) := by
  unfold tkb at hb
  unfold tok
  generalize blank (L.drop a) = r at hb ⊢
  unfold tokR
  by_cases hr : r = []
  · rw [if_pos hr]; exact Or.inr (Or.inl ⟨rfl, rfl⟩)
  · rw [if_neg hr]
    by_cases hw : r.takeWhile inWd ≠ []
    · rw [if_pos hw]; exact Or.inl ⟨rfl, List.all_takeWhile, hw⟩
    · rw [if_neg hw]
      have hw' : r.takeWhile inWd = [] := by simpa using hw
      have h0 : ¬ (sgn r).1 = 0 := by intro h; simp [hr, hw', h] at hb
      have h1 := (sgn_two r).1.2.1
      refine Or.inr (Or.inr ⟨by show 10 ≤ (sgn r).1; omega, ?_⟩)
      cases r with
      | nil => exact absurd rfl hr
      | cons x y =>
        have h2 := (sgn_two (x :: y)).2.1
        obtain ⟨m, hm⟩ : ∃ m, (sgn (x :: y)).2 = m + 1 := ⟨(sgn (x :: y)).2 - 1, by omega⟩
        refine ⟨x, y.take m, by show (x :: y).take (sgn (x :: y)).2 = _; rw [hm, List.take_succ_cons], ?_⟩
        cases hx : inWd x with
        | false => rfl
        | true => rw [List.takeWhile_cons, hx] at hw'; cases hw'

end Go.Proofs.YthemehdcakimgaiGreatDoor

namespace Go.Proofs.YthemehdcakimgaiGreatDoor
open Go.RowKit

theorem rdig_any (c : UInt8) (w : World) : Calls Tryz.prog 52 #[.int .u8 (c.toNat : Int)] w fun e w' => e = .returned (.bool (isDg c)) ∧ w' = w := by
  have e : isDg c = (decide (48 ≤ (c.toNat : Int)) && decide ((c.toNat : Int) ≤ 57)) := by
    unfold isDg
    rw [Bool.eq_iff_iff]
    simp [UInt8.le_iff_toNat_le]
    omega
  rw [e]
  generalize (c.toNat : Int) = m
  by_cases h1 : 48 ≤ m
  · by_cases h2 : m ≤ 57
    all_goals
      go_enter Tryz.func52, Tryz.ntmps52
      go_wp2_with fail
      go_ret
      simp
      try omega
  · go_enter Tryz.func52, Tryz.ntmps52
    go_wp2_with fail
    go_ret
    simp
    omega
set_option maxHeartbeats 400000 in
theorem rlet_any (c : UInt8) (w : World) : Calls Tryz.prog 53 #[.int .u8 (c.toNat : Int)] w fun e w' => e = .returned (.bool (isLt c)) ∧ w' = w := by
  have e : isLt c = ((decide (65 ≤ (c.toNat : Int)) && decide ((c.toNat : Int) ≤ 90)) || (decide (97 ≤ (c.toNat : Int)) && decide ((c.toNat : Int) ≤ 122))) := by
    unfold isLt
    rw [Bool.eq_iff_iff]
    simp [UInt8.le_iff_toNat_le]
    omega
  rw [e]
  generalize (c.toNat : Int) = m
  by_cases h1 : 65 ≤ m
  · by_cases h2 : m ≤ 90
    · go_enter Tryz.func53, Tryz.ntmps53
      go_wp2_with fail
      go_ret
      simp
      try omega
    · by_cases h3 : 97 ≤ m
      · by_cases h4 : m ≤ 122
        all_goals
          go_enter Tryz.func53, Tryz.ntmps53
          go_wp2_with fail
          go_ret
          simp
          try omega
      · go_enter Tryz.func53, Tryz.ntmps53
        go_wp2_with fail
        go_ret
        simp
        try omega
  · have h3 : ¬ 97 ≤ m := by omega
    go_enter Tryz.func53, Tryz.ntmps53
    go_wp2_with fail
    go_ret
    simp
    try omega
set_option maxHeartbeats 400000 in
theorem rinw_any (c : UInt8) (w : World) : Calls Tryz.prog 29 #[.int .u8 (c.toNat : Int)] w fun e w' => e = .returned (.bool (inWd c)) ∧ w' = w := by
  have HD := hid (rdig_any c w)
  have HL := hid (rlet_any c w)
  have q0 : ((c.toNat : Int) == 95) = decide (c = 95) := u8_eq c 95
  have q : ((c.toNat : Int) == 95) = (c == 95) := by rw [q0, Bool.eq_iff_iff]; simp
  clear q0
  unfold inWd
  generalize isDg c = d at *
  generalize isLt c = l at *
  generalize (c == 95) = u at *
  generalize (c.toNat : Int) = m at *
  go_enter Tryz.func29, Tryz.ntmps29
  go_wp2_with fail
  refine HD.out.mono ?_
  rintro e w1 ⟨rfl, rfl⟩
  go_wp2_with fail
  refine HL.out.mono ?_
  rintro e w2 ⟨rfl, rfl⟩
  cases d with
  | true =>
    go_wp2_with fail
    go_ret
    exact ⟨rfl, rfl⟩
  | false =>
    cases l with
    | true =>
      go_wp2_with fail
      go_ret
      exact ⟨rfl, rfl⟩
    | false =>
      cases u with
      | true =>
        go_wp2_with fail
        go_ret
        exact ⟨rfl, rfl⟩
      | false =>
        go_wp2_with fail
        go_ret
        exact ⟨rfl, rfl⟩

/-- a reader of the reference in memory -/
def RgR (w : World) (R : Nat) (T : ByteArray) (at' : Int) (tk : ByteArray) (dp e bd : Int) : Prop := w.heap[R]? = some (.cells #[.string T, .int .i64 at', .string tk, .int .i64 dp, .int .i64 e, .int .i64 bd] 59 (0, 0))
section
variable {w : World} {R : Nat} {T tk : ByteArray} {at' dp e bd : Int}
theorem RgR.lt (h : RgR w R T at' tk dp e bd) : R < w.heap.size := (Array.getElem?_eq_some_iff.1 h).1
theorem RgR.c0 (h : RgR w R T at' tk dp e bd) : w.cell? ⟨R, 0, none⟩ = some (.string T) := by simp [World.cell?, show w.heap[R]? = _ from h]
theorem RgR.c1 (h : RgR w R T at' tk dp e bd) : w.cell? ⟨R, 1, none⟩ = some (.int .i64 at') := by simp [World.cell?, show w.heap[R]? = _ from h]
theorem RgR.c2 (h : RgR w R T at' tk dp e bd) : w.cell? ⟨R, 2, none⟩ = some (.string tk) := by simp [World.cell?, show w.heap[R]? = _ from h]
theorem RgR.c3 (h : RgR w R T at' tk dp e bd) : w.cell? ⟨R, 3, none⟩ = some (.int .i64 dp) := by simp [World.cell?, show w.heap[R]? = _ from h]
theorem RgR.c4 (h : RgR w R T at' tk dp e bd) : w.cell? ⟨R, 4, none⟩ = some (.int .i64 e) := by simp [World.cell?, show w.heap[R]? = _ from h]
theorem RgR.c5 (h : RgR w R T at' tk dp e bd) : w.cell? ⟨R, 5, none⟩ = some (.int .i64 bd) := by simp [World.cell?, show w.heap[R]? = _ from h]
theorem RgR.fz (h : RgR w R T at' tk dp e bd) (i : Nat) : w.frozen? ⟨R, i, none⟩ = false := frozen_of_row w R i _ _ h
theorem RgR.s1 (h : RgR w R T at' tk dp e bd) (z : Int) : RgR (w.setCell ⟨R, 1, none⟩ (.int .i64 z)) R T z tk dp e bd := heap_setCell_same _ R 1 _ _ _ h
theorem RgR.s2 (h : RgR w R T at' tk dp e bd) (z : ByteArray) : RgR (w.setCell ⟨R, 2, none⟩ (.string z)) R T at' z dp e bd := heap_setCell_same _ R 2 _ _ _ h
theorem RgR.s3 (h : RgR w R T at' tk dp e bd) (z : Int) : RgR (w.setCell ⟨R, 3, none⟩ (.int .i64 z)) R T at' tk z e bd := heap_setCell_same _ R 3 _ _ _ h
theorem RgR.s4 (h : RgR w R T at' tk dp e bd) (z : Int) : RgR (w.setCell ⟨R, 4, none⟩ (.int .i64 z)) R T at' tk dp z bd := heap_setCell_same _ R 4 _ _ _ h
theorem RgR.s5 (h : RgR w R T at' tk dp e bd) (z : Int) : RgR (w.setCell ⟨R, 5, none⟩ (.int .i64 z)) R T at' tk dp e z := heap_setCell_same _ R 5 _ _ _ h
end

set_option maxRecDepth 100000 in
theorem rfail_any (R : Nat) (T tk : ByteArray) (at' dp e bd e2 b2 : Int) (w : World) (h : RgR w R T at' tk dp e bd) : Calls Tryz.prog 30 #[.pointer (some ⟨R, 0, none⟩), .int .i64 e2, .int .i64 b2] w fun en w' => en = .returned (.tuple #[]) ∧ Fr R w w' ∧ RgR w' R T at' tk dp (if e = 0 then e2 else e) (if e = 0 then b2 else bd) := by
  have c4 := h.c4
  have c5 := h.c5
  have f4 := h.fz 4
  have f5 := h.fz 5
  have H := hid h
  clear h
  by_cases he : e = 0
  · rw [if_pos he, if_pos he]
    have q : (e == 0) = true := by simpa using he
    clear he
    go_enter Tryz.func30, Tryz.ntmps30
    go_wp2_with fail
    go_end0
    exact ⟨rfl, ((Fr.refl R w).set 4 _).set 5 _, (H.out.s4 _).s5 _⟩
  · rw [if_neg he, if_neg he]
    have q : (e == 0) = false := by simpa using he
    clear he
    go_enter Tryz.func30, Tryz.ntmps30
    go_wp2_with fail
    go_end0
    exact ⟨rfl, Fr.refl R w, H.out⟩

end Go.Proofs.YthemehdcakimgaiGreatDoor
