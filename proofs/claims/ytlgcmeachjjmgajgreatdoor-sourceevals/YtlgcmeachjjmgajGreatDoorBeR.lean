/- Package source: functions asked by slices.ContainsFunc. Package source: the names of a text, checked. -/
import Derived.Test.YtlgcmeachjjmgajGreatDoorSrZ
namespace Go.Proofs.YtlgcmeachjjmgajGreatDoor
open Go.RowKit Go.Shelf

set_option maxRecDepth 100000 in
set_option maxHeartbeats 1000000 in
theorem same1_any (F : Nat) (g : FnT) (nm : List UInt8) (a2 : Option Addr) (c b : Nat) (W : World) (hF : W.cell? ⟨F, 0, none⟩ = some (.string (bs nm))) :
    Calls Tryz.prog 78 #[.agg #[.string (bs g.name), .int .i64 (g.at' : Int), .slice a2 g.more.length c, .pointer (some ⟨b, 0, none⟩)], .pointer (some ⟨F, 0, none⟩)] W fun e w' => e = .returned (.bool (g.name == nm)) ∧ Below W.heap.size W w' := by
  have h1 := bs_list g.name
  have h2 := bs_list nm
  have hlt := World.block_lt_of_cell? _ _ hF
  have hF2 : (W.alloc (.cells #[.string (bs g.name), .int .i64 (g.at' : Int), .slice a2 g.more.length c, .pointer (some ⟨b, 0, none⟩)] 82)).cell? ⟨F, 0, none⟩ = some (.string (bs nm)) := (((Below.refl _ W).alloc (Nat.le_refl _) _).cell (p := ⟨F, 0, none⟩) hlt).trans hF
  have HB : Hid (Below W.heap.size W (W.alloc (.cells #[.string (bs g.name), .int .i64 (g.at' : Int), .slice a2 g.more.length c, .pointer (some ⟨b, 0, none⟩)] 82))) := (Below.refl _ W).alloc (Nat.le_refl _) _
  by_cases hx : g.name = nm
  · have t1 : (g.name == nm) = true := by simpa using hx
    rw [t1]
    clear hx
    go_enter Tryz.func78, Tryz.ntmps78
    go_wp2_with fail
    go_ret
    exact ⟨rfl, HB.out⟩
  · have t1 : (g.name == nm) = false := by simpa using hx
    rw [t1]
    clear hx
    go_enter Tryz.func78, Tryz.ntmps78
    go_wp2_with fail
    go_ret
    exact ⟨rfl, HB.out⟩

/-- the word main -/
def mainW : List UInt8 := [109, 97, 105, 110]
set_option maxRecDepth 100000 in
set_option maxHeartbeats 1000000 in
theorem isMain_any (g : FnT) (a2 : Option Addr) (c b : Nat) (W : World) :
    Calls Tryz.prog 80 #[.agg #[.string (bs g.name), .int .i64 (g.at' : Int), .slice a2 g.more.length c, .pointer (some ⟨b, 0, none⟩)]] W fun e w' => e = .returned (.bool (g.name == mainW)) ∧ Below W.heap.size W w' := by
  have h1 := bs_list g.name
  have h2 : (⟨#[109, 97, 105, 110]⟩ : ByteArray).toList = mainW := by kernel_rfl
  have HB : Hid (Below W.heap.size W (W.alloc (.cells #[.string (bs g.name), .int .i64 (g.at' : Int), .slice a2 g.more.length c, .pointer (some ⟨b, 0, none⟩)] 82))) := (Below.refl _ W).alloc (Nat.le_refl _) _
  generalize mainW = nm at *
  by_cases hx : g.name = nm
  · have t1 : (g.name == nm) = true := by simpa using hx
    rw [t1]
    clear hx
    go_enter Tryz.func80, Tryz.ntmps80
    go_wp2_with fail
    go_ret
    exact ⟨rfl, HB.out⟩
  · have t1 : (g.name == nm) = false := by simpa using hx
    rw [t1]
    clear hx
    go_enter Tryz.func80, Tryz.ntmps80
    go_wp2_with fail
    go_ret
    exact ⟨rfl, HB.out⟩

set_option maxRecDepth 100000 in
set_option maxHeartbeats 1000000 in
theorem indexF_any (F cap n : Nat) (caps : Array Value) (a : Option Addr) (fs : List FnT) (p : FnT → Bool) (w : World) (hn : n ≤ fs.length) (hlen : fs.length ≤ 4000) (hl : FnR 0 w a fs)
    (hcf : ∀ (args : Array Value) (w1 : World), (callFunc F args).run Tryz.prog w1 = .ok (.enter F args) w1)
    (HC : ∀ (W : World) (g : FnT) (a2 : Option Addr) (c b : Nat), Below w.heap.size w W → Calls Tryz.prog F (#[.agg #[.string (bs g.name), .int .i64 (g.at' : Int), .slice a2 g.more.length c, .pointer (some ⟨b, 0, none⟩)]] ++ caps) W fun e w' => e = .returned (.bool (p g)) ∧ Below W.heap.size W w') :
    Calls Tryz.prog 118 #[.slice a n cap, .func (.func F) #[] caps] w fun e w' => (∃ r : Int, e = .returned (.int .i64 r) ∧ decide (0 ≤ r) = (fs.take n).any p) ∧ Below w.heap.size w w' := by
  have HL := hid hl
  have HE1 := hid HC
  have HN := hid hn
  have HLN := hid hlen
  have hn2 : n ≤ 4000 := by omega
  clear hl HC hn hlen
  go_enter Tryz.func118, Tryz.ntmps118
  go_wp2_with fail
  go_loopw [8] (fun iv wr => ∃ k : Nat, k ≤ n ∧ iv = .int .i64 k ∧ Hid ((∀ j g, j < k → fs[j]? = some g → p g = false) ∧ Below w.heap.size w wr)) (fun iv _ => n - (intOf iv).toNat)
  case atStart => exact ⟨0, by omega, rfl, fun j _ hj => by omega, Below.refl _ _⟩
  case round =>
    obtain ⟨k, hk, rfl, hI⟩ := hrel
    by_cases hlt : k < n
    · have hlt2 : (k : Int) < (n : Int) := by omega
      have hks : IntKind.i64.wrap ((k : Int) + 1) = (k : Int) + 1 := by rw [IntKind.wrap_i64]; omega
      obtain ⟨g, hg⟩ : ∃ g, fs[k]? = some g := ⟨_, List.getElem?_eq_getElem (by have := HN.out; omega)⟩
      obtain ⟨kb, a2, c, b, rfl, _, d0, d1, d2, d3, _⟩ := HL.out k g hg
      have c0 := (hI.out.2.cell (p := ⟨kb, k * 4, none⟩) (World.block_lt_of_cell? _ _ d0)).trans d0
      have c1 := (hI.out.2.cell (p := ⟨kb, k * 4 + 1, none⟩) (World.block_lt_of_cell? _ _ d1)).trans d1
      have c2 := (hI.out.2.cell (p := ⟨kb, k * 4 + 2, none⟩) (World.block_lt_of_cell? _ _ d2)).trans d2
      have c3 := (hI.out.2.cell (p := ⟨kb, k * 4 + 3, none⟩) (World.block_lt_of_cell? _ _ d3)).trans d3
      have HX := HE1.out wr g a2 c b hI.out.2
      have HBI := hid hI.out.2
      clear d0 d1 d2 d3
      cases hb : p g with
      | false =>
        rw [hb] at HX
        have HXX := hid HX
        have HE : Hid (∀ j g, j < k + 1 → fs[j]? = some g → p g = false) := fun j g' hj hj2 => by
          by_cases e : j = k
          · rw [e, hg] at hj2; injection hj2 with hj2; rw [← hj2]; exact hb
          · exact hI.out.1 j g' (by omega) hj2
        clear hI HX hb hg
        go_wp2_with fail
        refine HXX.out.mono ?_
        rintro e w1 ⟨rfl, hb1⟩
        have HB1 := hid (HBI.out.trans (hb1.mono HBI.out.size))
        clear hb1
        go_wp2_with fail
        go_roundw
        case rel => exact ⟨k + 1, by omega, by go_num, HE, HB1.out⟩
        case measure => simp [intOf]; omega
      | true =>
        rw [hb] at HX
        have HXX := hid HX
        have HE : Hid ((fs.take n).any p = true) := List.any_eq_true.2 ⟨g, List.mem_of_getElem? (i := k) (by rw [List.getElem?_take_of_lt hlt]; exact hg), hb⟩
        clear hI HX hb hg
        go_wp2_with fail
        refine HXX.out.mono ?_
        rintro e w1 ⟨rfl, hb1⟩
        have HB1 := hid (HBI.out.trans (hb1.mono HBI.out.size))
        clear hb1
        go_wp2_with fail
        go_ret
        refine ⟨⟨(k : Int), rfl, ?_⟩, HB1.out⟩
        rw [HE.out]
        simp
    · obtain rfl : k = n := by omega
      have hlt2 : ¬ (k : Int) < (k : Int) := by omega
      have HE : Hid ((fs.take k).any p = false) := by
        unfold Hid
        rw [List.any_eq_false]
        intro x hx
        obtain ⟨j, hj⟩ := List.mem_iff_getElem?.1 hx
        have hjk : j < k := by
          rcases Nat.lt_or_ge j k with h | h
          · exact h
          · rw [List.getElem?_eq_none (by rw [List.length_take]; omega)] at hj; cases hj
        rw [List.getElem?_take_of_lt hjk] at hj
        simp [hI.out.1 j x hjk hj]
      have HBI := hid hI.out.2
      clear hI
      go_wp2_with fail
      go_ret
      refine ⟨⟨-1, rfl, ?_⟩, HBI.out⟩
      rw [HE.out]
      simp

set_option maxRecDepth 100000 in
theorem containsF_any (F cap n : Nat) (caps : Array Value) (a : Option Addr) (fs : List FnT) (p : FnT → Bool) (w : World) (hn : n ≤ fs.length) (hlen : fs.length ≤ 4000) (hl : FnR 0 w a fs)
    (hcf : ∀ (args : Array Value) (w1 : World), (callFunc F args).run Tryz.prog w1 = .ok (.enter F args) w1)
    (HC : ∀ (W : World) (g : FnT) (a2 : Option Addr) (c b : Nat), Below w.heap.size w W → Calls Tryz.prog F (#[.agg #[.string (bs g.name), .int .i64 (g.at' : Int), .slice a2 g.more.length c, .pointer (some ⟨b, 0, none⟩)]] ++ caps) W fun e w' => e = .returned (.bool (p g)) ∧ Below W.heap.size W w') :
    Calls Tryz.prog 77 #[.slice a n cap, .func (.func F) #[] caps] w fun e w' => e = .returned (.bool ((fs.take n).any p)) ∧ Below w.heap.size w w' := by
  have HI := hid (indexF_any F cap n caps a fs p w hn hlen hl hcf HC)
  clear hl hcf HC hn hlen
  generalize (fs.take n).any p = E at *
  go_enter Tryz.func77, Tryz.ntmps77
  go_wp2_with fail
  refine HI.out.mono ?_
  rintro e w1 ⟨⟨r, rfl, hr⟩, hb⟩
  have HRR := hid hr
  have HB := hid hb
  clear hr HI hb
  go_wp2_with fail
  go_ret
  exact ⟨by rw [← HRR.out]; rfl, HB.out⟩

end Go.Proofs.YtlgcmeachjjmgajGreatDoor

namespace Go.Proofs.YtlgcmeachjjmgajGreatDoor
open Go.RowKit Go.Shelf

/-- functions by what a call asks of them -/
def sgF (fs : List FnT) (nm : List UInt8) (n : Nat) : Bool := fs.any (fun g => g.name == nm && g.more.length == n)
/-- the first fault of the names of functions, from the i-th on -/
def ckl (fs : List FnT) : List FnT → Nat → Option (Nat × Nat)
  | [], _ => none
  | g :: r, i => if (fs.take i).any (fun h => h.name == g.name) then some (4, g.at') else match ckw (sgF fs) g with
    | some e => some e
    | none => ckl fs r (i + 1)
/-- the first fault of the names of a text of so many bytes -/
def ckn (fs : List FnT) (len : Nat) : Option (Nat × Nat) := match ckl fs fs 0 with
  | some e => some e
  | none => if fs.any (fun h => h.name == mainW) then none else some (6, len)
/-- names and parts of a function that are few enough -/
def FOk (g : FnT) : Prop := g.name.length ≤ 4000 ∧ g.more.length ≤ 4000 ∧ (∀ x, x ∈ g.more → x.1.length ≤ 4000) ∧ TOk g.body
theorem gb_belS {N B : Nat} {w W W' : World} (h : Below N w W) (g : W.grownBy W' (some B)) (hB : N ≤ B) (hN : w.heap.size = N) : Below N w W' :=
  ⟨g.os.trans h.os, g.tape.trans h.tape, g.output.trans h.output, Nat.le_trans h.size g.size, fun k hk => (g.block k (by have := h.size; omega) (fun e => by injection e; omega)).trans (h.block k hk)⟩
theorem FnR.below {lo : Nat} {w w' : World} {a : Option Addr} {fs : List FnT} (h : FnR lo w a fs) (g : Below w.heap.size w w') : FnR lo w' a fs := fun i x hx => by
  obtain ⟨k, a2, c, b, h1, h2, h3, h4, h5, h6, h7, h8⟩ := h i x hx
  exact ⟨k, a2, c, b, h1, h2, (g.cell (p := ⟨k, i * 4, none⟩) (World.block_lt_of_cell? _ _ h3)).trans h3, (g.cell (p := ⟨k, i * 4 + 1, none⟩) (World.block_lt_of_cell? _ _ h4)).trans h4, (g.cell (p := ⟨k, i * 4 + 2, none⟩) (World.block_lt_of_cell? _ _ h5)).trans h5, (g.cell (p := ⟨k, i * 4 + 3, none⟩) (World.block_lt_of_cell? _ _ h6)).trans h6, NmB.keep h7 (fun b hb hl => ⟨hb, g.block b hl⟩), h8.below g⟩

set_option maxRecDepth 100000 in
set_option maxHeartbeats 4000000 in
theorem checkNames_any (T : ByteArray) (fs : List FnT) (a : Option Addr) (c : Nat) (w : World) (hl : FnR 0 w a fs) (hcap : fs.length ≤ c) (hlen : fs.length ≤ 4000) (hok : ∀ g, g ∈ fs → FOk g) (hT : T.size ≤ 4000) :
    Calls Tryz.prog 46 #[.string T, .slice a fs.length c] w fun e w' => Below w.heap.size w w' ∧ match ckn fs T.size with
      | none => ∃ v, e = .returned v
      | some y => e = pncF y.2 y.1 := by
  have hnot : ∀ (x : Bool) (w : World), (Op.unary .not (.bool x)).run Tryz.prog w = .ok (.bool (!x)) w := fun _ _ => rfl
  obtain ⟨res, hres⟩ : ∃ res, Hid (res = ckn fs T.size) := ⟨_, rfl⟩
  rw [← hres.out]
  obtain ⟨R, hR⟩ : ∃ R : Ending → World → Prop, R = (fun e w' => Below w.heap.size w w' ∧ match res with
      | none => ∃ v, e = .returned v
      | some y => e = pncF y.2 y.1) := ⟨_, rfl⟩
  rw [← hR]
  have HRP : Hid (∀ e w', (Below w.heap.size w w' ∧ match res with
      | none => ∃ v, e = .returned v
      | some y => e = pncF y.2 y.1) → R e w') := by unfold Hid; rw [hR]; exact fun _ _ h => h
  obtain ⟨n, hn⟩ : ∃ n, n = fs.length := ⟨_, rfl⟩
  have HN := hid hn
  rw [← hn]
  rw [← hn] at hcap
  have HL := hid hl
  have HOK := hid hok
  have hn4 : n ≤ 4000 := by omega
  have HT := hid hT
  clear hR hl hlen hok hT hn
  have hmm := @run_makeMap Tryz.prog
  go_enter Tryz.func46, Tryz.ntmps46
  go_wp2_with fail
  have HM0 : Hid (MapI sgk sgo (w.alloc (.map #[] 0)) w.heap.size (fun _ => none)) := MapI.new w
  have HB0 : Hid (Below w.heap.size w (w.alloc (.map #[] 0))) := (Below.refl _ w).alloc (Nat.le_refl _) _
  generalize w.alloc (.map #[] 0) = W0 at *
  go_loopw [12] (fun iv wr => ∃ (k : Nat) (M : List UInt8 × Nat → Option Int), k ≤ n ∧ iv = .int .i64 k ∧ Hid (MapI sgk sgo wr w.heap.size M) ∧ Hid (∀ x, (M x).isSome = sgF (fs.take k) x.1 x.2) ∧ Hid (Below w.heap.size w wr)) (fun iv _ => n - (intOf iv).toNat)
  case atStart => exact ⟨0, _, Nat.zero_le _, rfl, HM0, fun _ => rfl, HB0⟩
  case round =>
    obtain ⟨k, M, hk, rfl, hM, hMs, hbel⟩ := hrel
    by_cases hlt : k < n
    · have hlt2 : (k : Int) < (n : Int) := by omega
      have hks : IntKind.i64.wrap ((k : Int) + 1) = (k : Int) + 1 := by rw [IntKind.wrap_i64]; omega
      obtain ⟨g, hg⟩ : ∃ g, fs[k]? = some g := ⟨_, List.getElem?_eq_getElem (by have := HN.out; omega)⟩
      obtain ⟨kb, a2, c2, b, rfl, _, d0, d1, d2, d3, _⟩ := HL.out k g hg
      have c0 := (hbel.out.cell (p := ⟨kb, k * 4, none⟩) (World.block_lt_of_cell? _ _ d0)).trans d0
      have c1 := (hbel.out.cell (p := ⟨kb, k * 4 + 1, none⟩) (World.block_lt_of_cell? _ _ d1)).trans d1
      have c2' := (hbel.out.cell (p := ⟨kb, k * 4 + 2, none⟩) (World.block_lt_of_cell? _ _ d2)).trans d2
      have c3 := (hbel.out.cell (p := ⟨kb, k * 4 + 3, none⟩) (World.block_lt_of_cell? _ _ d3)).trans d3
      have HFO := hid (HOK.out g (List.mem_of_getElem? hg))
      have HG := hid hg
      clear d0 d1 d2 d3 hg
      go_wp2_with (refine wpList_updateI sigK _ rfl _ _ _ rfl w.heap.size M rfl ?_ (g.name, g.more.length) (k : Int) rfl rfl ⟨HFO.out.1, HFO.out.2.1⟩ ?_)
      · exact hM.out.below ((Below.refl _ wr).alloc (Nat.le_refl _) _)
      · intro w' hM' hgb
        have HM' := hid hM'
        have HB' : Hid (Below w.heap.size w w') := gb_belS (hbel.out.trans (((Below.refl _ wr).alloc (Nat.le_refl _) _).mono hbel.out.size)) hgb (Nat.le_refl _) rfl
        have HMS : Hid (∀ x, (updI M (g.name, g.more.length) (k : Int) x).isSome = sgF (fs.take (k + 1)) x.1 x.2) := fun x => by
          have h1 := hMs.out x
          unfold sgF at h1 ⊢
          rw [List.take_add_one, HG.out, List.any_append, ← h1]
          unfold updI
          by_cases e : x = (g.name, g.more.length)
          · rw [if_pos e, e]; simp
          · rw [if_neg e]
            have : (g.name == x.1 && g.more.length == x.2) = false := by
              cases hh : (g.name == x.1 && g.more.length == x.2) with
              | false => rfl
              | true =>
                simp at hh
                exact absurd (Prod.ext hh.1.symm hh.2.symm) e
            simp [this]
        clear hM' hgb hM hMs hbel c0 c1 c2' c3
        go_wp2_with fail
        go_roundw
        case rel => exact ⟨k + 1, _, by omega, by go_num, HM', HMS, HB'⟩
        case measure => simp [intOf]; omega
    · obtain rfl : k = n := by omega
      have hlt2 : ¬ (k : Int) < (k : Int) := by omega
      have HMS : Hid (∀ x, sgo x → (M x).isSome = sgF fs x.1 x.2) := fun x _ => by
        have h1 := hMs.out x
        rwa [HN.out, List.take_length] at h1
      have HL2 := hid (HL.out.below hbel.out)
      clear hMs HL
      obtain ⟨WL, rfl⟩ : ∃ WL, WL = wr := ⟨_, rfl⟩
      go_wp2_with fail
      go_loopw [29] (fun iv wq => ∃ (j : Nat), j ≤ k ∧ iv = .int .i64 j ∧ Hid (ckl fs fs 0 = ckl fs (fs.drop j) j) ∧ Hid (Below WL.heap.size WL wq)) (fun iv _ => k - (intOf iv).toNat)
      case atStart => exact ⟨0, Nat.zero_le _, rfl, rfl, Below.refl _ _⟩
      case round =>
        obtain ⟨j, hj, rfl, hck, hbq⟩ := hrel
        have HBW := hid (hbel.out.trans (hbq.out.mono hbel.out.size))
        by_cases hlj : j < k
        · have hlj2 : (j : Int) < (k : Int) := by omega
          have hks : IntKind.i64.wrap ((j : Int) + 1) = (j : Int) + 1 := by rw [IntKind.wrap_i64]; omega
          obtain ⟨g, hg⟩ : ∃ g, fs[j]? = some g := ⟨_, List.getElem?_eq_getElem (by have := HN.out; omega)⟩
          have HG := hid hg
          obtain ⟨kb, a2, c2, b, rfl, _, d0, d1, d2, d3, d4, d5⟩ := HL2.out j g hg
          have c0 := (hbq.out.cell (p := ⟨kb, j * 4, none⟩) (World.block_lt_of_cell? _ _ d0)).trans d0
          have c1 := (hbq.out.cell (p := ⟨kb, j * 4 + 1, none⟩) (World.block_lt_of_cell? _ _ d1)).trans d1
          have c2' := (hbq.out.cell (p := ⟨kb, j * 4 + 2, none⟩) (World.block_lt_of_cell? _ _ d2)).trans d2
          have c3 := (hbq.out.cell (p := ⟨kb, j * 4 + 3, none⟩) (World.block_lt_of_cell? _ _ d3)).trans d3
          have HFO := hid (HOK.out g (List.mem_of_getElem? hg))
          have HND := hid d4
          have HPD := hid d5
          have hck2 := hck.out
          rw [List.drop_eq_getElem_cons (by have := HN.out; omega), show fs[j]'(by have := HN.out; omega) = g from Option.some.inj ((List.getElem?_eq_getElem _).symm.trans hg), ckl] at hck2
          have HCK := hid hck2
          clear d0 d1 d2 d3 d4 d5 hg hck hck2
          go_wp2_with fail
          have hbA : Below wr.heap.size wr (wr.alloc (.cells #[.string (bs g.name), .int .i64 (g.at' : Int), .slice a2 g.more.length c2, .pointer (some ⟨b, 0, none⟩)] 82)) := (Below.refl _ _).alloc (Nat.le_refl _) _
          have HF : Hid (∀ i v, [Value.string (bs g.name), .int .i64 (g.at' : Int), .slice a2 g.more.length c2, .pointer (some ⟨b, 0, none⟩)][i]? = some v → (wr.alloc (.cells #[.string (bs g.name), .int .i64 (g.at' : Int), .slice a2 g.more.length c2, .pointer (some ⟨b, 0, none⟩)] 82)).cell? ⟨wr.heap.size, i, none⟩ = some v) := fun i v hi => by
            have := cell_four_new wr _ _ _ _ 82 i v hi
            rwa [show (⟨wr.heap.size, 0, none⟩ : Addr).add i = ⟨wr.heap.size, i, none⟩ by unfold Addr.add; split <;> simp_all] at this
          have HBQ := hid (hbq.out.trans (hbA.mono hbq.out.size))
          have hzA : wr.heap.size < (wr.alloc (.cells #[.string (bs g.name), .int .i64 (g.at' : Int), .slice a2 g.more.length c2, .pointer (some ⟨b, 0, none⟩)] 82)).heap.size := by simp
          have HCO := hid (containsF_any 78 c j #[.pointer (some ⟨wr.heap.size, 0, none⟩)] (some ⟨kb, 0, none⟩) fs (fun h => h.name == g.name) (wr.alloc (.cells #[.string (bs g.name), .int .i64 (g.at' : Int), .slice a2 g.more.length c2, .pointer (some ⟨b, 0, none⟩)] 82))
            (by have := HN.out; omega) (by have := HN.out; omega) (HL2.out.below HBQ.out) (entersF Tryz.func78 (by kernel_rfl) (by kernel_rfl))
            (fun W g' a' c' b' hW => same1_any wr.heap.size g' g.name a' c' b' W ((hW.cell (p := ⟨wr.heap.size, 0, none⟩) hzA).trans (HF.out 0 _ rfl))))
          clear hbA c0 c1 c2' c3 hbq HBW
          generalize wr.alloc (.cells #[.string (bs g.name), .int .i64 (g.at' : Int), .slice a2 g.more.length c2, .pointer (some ⟨b, 0, none⟩)] 82) = wA at *
          refine HCO.out.mono ?_
          rintro e wB ⟨rfl, hbB⟩
          have HBB := hid (HBQ.out.trans (hbB.mono HBQ.out.size))
          have f0 := (hbB.cell (p := ⟨wr.heap.size, 0, none⟩) hzA).trans (HF.out 0 _ rfl)
          have f1 := (hbB.cell (p := ⟨wr.heap.size, 1, none⟩) hzA).trans (HF.out 1 _ rfl)
          have f2 := (hbB.cell (p := ⟨wr.heap.size, 2, none⟩) hzA).trans (HF.out 2 _ rfl)
          have f3 := (hbB.cell (p := ⟨wr.heap.size, 3, none⟩) hzA).trans (HF.out 3 _ rfl)
          have HBW := hid (hbel.out.trans (HBB.out.mono hbel.out.size))
          clear hbB HCO HF HBQ hzA
          cases hE : (fs.take j).any (fun h => h.name == g.name) with
          | true =>
            have hre : res = some (4, g.at') := by
              have h1 := HCK.out
              rw [if_pos hE] at h1
              rw [hres.out]
              unfold ckn
              rw [h1]
            subst hre
            clear hE HCK
            go_wp2_with fail
            exact ⟨rfl, HRP.out _ _ ⟨HBW.out, rfl⟩⟩
          | false =>
            have h1 := HCK.out
            rw [if_neg (by simp [hE])] at h1
            have HC2 := hid h1
            have HCW := hid (checkWithin_any (sgF fs) w.heap.size g a2 c2 b M wB (NmB.keep (B := fun x => 0 ≤ x) (B' := fun x => 0 ≤ x) HND.out (fun x hx hl => ⟨hx, HBB.out.block x hl⟩)) (HPD.out.below HBB.out) HFO.out.2.2.2 HFO.out.2.1 HFO.out.2.2.1 (hM.out.below HBB.out) HMS.out)
            clear hE HCK h1
            cases hcw : ckw (sgF fs) g with
            | none =>
              rw [hcw] at HC2 HCW
              clear hcw
              go_wp2_with fail
              refine HCW.out.mono ?_
              rintro e wC ⟨hbC, v, rfl⟩
              have HBC := hid (HBB.out.trans (hbC.mono HBB.out.size))
              clear hbC HCW
              go_wp2_with fail
              go_roundw
              case rel => exact ⟨j + 1, by omega, by go_num, HC2, HBC⟩
              case measure => simp [intOf]; omega
            | some y =>
              rw [hcw] at HC2 HCW
              have hre : res = some y := by
                rw [hres.out]
                unfold ckn
                rw [HC2.out]
              subst hre
              clear hcw
              go_wp2_with fail
              refine HCW.out.mono ?_
              rintro e wC ⟨hbC, rfl⟩
              exact ⟨rfl, HRP.out _ _ ⟨HBW.out.trans (hbC.mono HBW.out.size), rfl⟩⟩
        · obtain rfl : j = k := by omega
          have hlj2 : ¬ (j : Int) < (j : Int) := by omega
          have hck2 := hck.out
          rw [HN.out, List.drop_length, ckl] at hck2
          have HCO := hid (containsF_any 80 c j #[] a fs (fun h => h.name == mainW) wr (by have := HN.out; omega) (by have := HN.out; omega) (HL2.out.below hbq.out) (entersF Tryz.func80 (by kernel_rfl) (by kernel_rfl)) (fun W g' a' c' b' _ => isMain_any g' a' c' b' W))
          have hE : (fs.take j).any (fun h => h.name == mainW) = fs.any (fun h => h.name == mainW) := by rw [HN.out, List.take_length]
          rw [hE] at HCO
          have HRE : Hid (res = if fs.any (fun h => h.name == mainW) then none else some (6, T.size)) := by
            unfold Hid
            rw [hres.out]
            unfold ckn
            rw [hck2]
          clear hE hck hck2 hbq
          generalize fs.any (fun h => h.name == mainW) = E at *
          go_wp2_with fail
          refine HCO.out.mono ?_
          rintro e wC ⟨rfl, hbC⟩
          have HBC := hid (HBW.out.trans (hbC.mono HBW.out.size))
          clear hbC HCO
          cases E with
          | true =>
            have hre := HRE.out
            simp at hre
            subst hre
            clear HRE
            go_wp2_with fail
            go_end0
            exact HRP.out _ _ ⟨HBC.out, _, rfl⟩
          | false =>
            have hre := HRE.out
            simp at hre
            subst hre
            clear HRE
            go_wp2_with fail
            exact ⟨rfl, HRP.out _ _ ⟨HBC.out, rfl⟩⟩

end Go.Proofs.YtlgcmeachjjmgajGreatDoor
