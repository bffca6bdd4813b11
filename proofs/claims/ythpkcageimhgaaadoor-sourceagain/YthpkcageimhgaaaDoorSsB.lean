/- Package source: the names of a text, checked. -/
import Derived.Test.YthpkcageimhgaaaDoorSsA
namespace Go.Proofs.YthpkcageimhgaaaDoor
open Go.RowKit Go.Shelf

/-- functions by what a call asks of them -/
def sgF (fs : List FnT) (nm : List UInt8) (n : Nat) : Bool := fs.any (fun g => g.name == nm && g.more.length == n)
/-- the first fault of the names of functions, from the i-th on -/
def ckl (fs : List FnT) : List FnT → Nat → Option (Nat × Nat)
  | [], _ => none
  | g :: r, i => if (fs.take i).any (fun h => h.name == g.name) then some (4, g.at') else match ckw (sgF fs) g with
    | some e => some e
    | none => ckl fs r (i + 1)
/-- the first fault of the names of a text of so many bytes -/
def ckn (fs : List FnT) (len : Nat) : Option (Nat × Nat) := match ckl fs fs 0 with
  | some e => some e
  | none => if fs.any (fun h => h.name == mainW) then none else some (6, len)
/-- names and parts of a function that are few enough -/
def FOk (g : FnT) : Prop := g.name.length ≤ 4000 ∧ g.more.length ≤ 4000 ∧ (∀ x, x ∈ g.more → x.1.length ≤ 4000) ∧ TOk g.body
theorem gb_belS {N B : Nat} {w W W' : World} (h : Below N w W) (g : W.grownBy W' (some B)) (hB : N ≤ B) (hN : w.heap.size = N) : Below N w W' :=
  ⟨g.os.trans h.os, g.tape.trans h.tape, g.output.trans h.output, Nat.le_trans h.size g.size, fun k hk => (g.block k (by have := h.size; omega) (fun e => by injection e; omega)).trans (h.block k hk)⟩
theorem FnR.below {lo : Nat} {w w' : World} {a : Option Addr} {fs : List FnT} (h : FnR lo w a fs) (g : Below w.heap.size w w') : FnR lo w' a fs := fun i x hx => by
  obtain ⟨k, a2, c, b, h1, h2, h3, h4, h5, h6, h7, h8⟩ := h i x hx
  exact ⟨k, a2, c, b, h1, h2, (g.cell (p := ⟨k, i * 4, none⟩) (World.block_lt_of_cell? _ _ h3)).trans h3, (g.cell (p := ⟨k, i * 4 + 1, none⟩) (World.block_lt_of_cell? _ _ h4)).trans h4, (g.cell (p := ⟨k, i * 4 + 2, none⟩) (World.block_lt_of_cell? _ _ h5)).trans h5, (g.cell (p := ⟨k, i * 4 + 3, none⟩) (World.block_lt_of_cell? _ _ h6)).trans h6, NmB.keep h7 (fun b hb hl => ⟨hb, g.block b hl⟩), h8.below g⟩

set_option maxRecDepth 100000 in
set_option maxHeartbeats 4000000 in
theorem checkNames_any (T : ByteArray) (fs : List FnT) (a : Option Addr) (c : Nat) (w : World) (hl : FnR 0 w a fs) (hcap : fs.length ≤ c) (hlen : fs.length ≤ 4000) (hok : ∀ g, g ∈ fs → FOk g) (hT : T.size ≤ 4000) :
    Calls Tryd.prog 14 #[.string T, .slice a fs.length c] w fun e w' => Below w.heap.size w w' ∧ match ckn fs T.size with
      | none => ∃ v, e = .returned v
      | some y => e = pncF y.2 y.1 := by
  have hnot : ∀ (x : Bool) (w : World), (Op.unary .not (.bool x)).run Tryd.prog w = .ok (.bool (!x)) w := fun _ _ => rfl
  obtain ⟨res, hres⟩ : ∃ res, Hid (res = ckn fs T.size) := ⟨_, rfl⟩
  rw [← hres.out]
  obtain ⟨R, hR⟩ : ∃ R : Ending → World → Prop, R = (fun e w' => Below w.heap.size w w' ∧ match res with
      | none => ∃ v, e = .returned v
      | some y => e = pncF y.2 y.1) := ⟨_, rfl⟩
  rw [← hR]
  have HRP : Hid (∀ e w', (Below w.heap.size w w' ∧ match res with
      | none => ∃ v, e = .returned v
      | some y => e = pncF y.2 y.1) → R e w') := by unfold Hid; rw [hR]; exact fun _ _ h => h
  obtain ⟨n, hn⟩ : ∃ n, n = fs.length := ⟨_, rfl⟩
  have HN := hid hn
  rw [← hn]
  rw [← hn] at hcap
  have HL := hid hl
  have HOK := hid hok
  have hn4 : n ≤ 4000 := by omega
  have HT := hid hT
  clear hR hl hlen hok hT hn
  have hmm := @run_makeMap Tryd.prog
  go_enter Tryd.func14, Tryd.ntmps14
  go_wp2_with fail
  have HM0 : Hid (MapI sgk sgo (w.alloc (.map #[] 0)) w.heap.size (fun _ => none)) := MapI.new w
  have HB0 : Hid (Below w.heap.size w (w.alloc (.map #[] 0))) := (Below.refl _ w).alloc (Nat.le_refl _) _
  generalize w.alloc (.map #[] 0) = W0 at *
  go_loopw [12] (fun iv wr => ∃ (k : Nat) (M : List UInt8 × Nat → Option Int), k ≤ n ∧ iv = .int .i64 k ∧ Hid (MapI sgk sgo wr w.heap.size M) ∧ Hid (∀ x, (M x).isSome = sgF (fs.take k) x.1 x.2) ∧ Hid (Below w.heap.size w wr)) (fun iv _ => n - (intOf iv).toNat)
  case atStart => exact ⟨0, _, Nat.zero_le _, rfl, HM0, fun _ => rfl, HB0⟩
  case round =>
    obtain ⟨k, M, hk, rfl, hM, hMs, hbel⟩ := hrel
    by_cases hlt : k < n
    · have hlt2 : (k : Int) < (n : Int) := by omega
      have hks : IntKind.i64.wrap ((k : Int) + 1) = (k : Int) + 1 := by rw [IntKind.wrap_i64]; omega
      obtain ⟨g, hg⟩ : ∃ g, fs[k]? = some g := ⟨_, List.getElem?_eq_getElem (by have := HN.out; omega)⟩
      obtain ⟨kb, a2, c2, b, rfl, _, d0, d1, d2, d3, _⟩ := HL.out k g hg
      have c0 := (hbel.out.cell (p := ⟨kb, k * 4, none⟩) (World.block_lt_of_cell? _ _ d0)).trans d0
      have c1 := (hbel.out.cell (p := ⟨kb, k * 4 + 1, none⟩) (World.block_lt_of_cell? _ _ d1)).trans d1
      have c2' := (hbel.out.cell (p := ⟨kb, k * 4 + 2, none⟩) (World.block_lt_of_cell? _ _ d2)).trans d2
      have c3 := (hbel.out.cell (p := ⟨kb, k * 4 + 3, none⟩) (World.block_lt_of_cell? _ _ d3)).trans d3
      have HFO := hid (HOK.out g (List.mem_of_getElem? hg))
      have HG := hid hg
      clear d0 d1 d2 d3 hg
      go_wp2_with (refine wpList_updateI sigK _ rfl _ _ _ rfl w.heap.size M rfl ?_ (g.name, g.more.length) (k : Int) rfl rfl ⟨HFO.out.1, HFO.out.2.1⟩ ?_)
      · exact hM.out.below ((Below.refl _ wr).alloc (Nat.le_refl _) _)
      · intro w' hM' hgb
        have HM' := hid hM'
        have HB' : Hid (Below w.heap.size w w') := gb_belS (hbel.out.trans (((Below.refl _ wr).alloc (Nat.le_refl _) _).mono hbel.out.size)) hgb (Nat.le_refl _) rfl
        have HMS : Hid (∀ x, (updI M (g.name, g.more.length) (k : Int) x).isSome = sgF (fs.take (k + 1)) x.1 x.2) := fun x => by
          have h1 := hMs.out x
          unfold sgF at h1 ⊢
          rw [List.take_add_one, HG.out, List.any_append, ← h1]
          unfold updI
          by_cases e : x = (g.name, g.more.length)
          · rw [if_pos e, e]; simp
          · rw [if_neg e]
            have : (g.name == x.1 && g.more.length == x.2) = false := by
              cases hh : (g.name == x.1 && g.more.length == x.2) with
              | false => rfl
              | true =>
                simp at hh
                exact absurd (Prod.ext hh.1.symm hh.2.symm) e
            simp [this]
        clear hM' hgb hM hMs hbel c0 c1 c2' c3
        go_wp2_with fail
        go_roundw
        case rel => exact ⟨k + 1, _, by omega, by go_num, HM', HMS, HB'⟩
        case measure => simp [intOf]; omega
    · obtain rfl : k = n := by omega
      have hlt2 : ¬ (k : Int) < (k : Int) := by omega
      have HMS : Hid (∀ x, sgo x → (M x).isSome = sgF fs x.1 x.2) := fun x _ => by
        have h1 := hMs.out x
        rwa [HN.out, List.take_length] at h1
      have HL2 := hid (HL.out.below hbel.out)
      clear hMs HL
      obtain ⟨WL, rfl⟩ : ∃ WL, WL = wr := ⟨_, rfl⟩
      go_wp2_with fail
      go_loopw [29] (fun iv wq => ∃ (j : Nat), j ≤ k ∧ iv = .int .i64 j ∧ Hid (ckl fs fs 0 = ckl fs (fs.drop j) j) ∧ Hid (Below WL.heap.size WL wq)) (fun iv _ => k - (intOf iv).toNat)
      case atStart => exact ⟨0, Nat.zero_le _, rfl, rfl, Below.refl _ _⟩
      case round =>
        obtain ⟨j, hj, rfl, hck, hbq⟩ := hrel
        have HBW := hid (hbel.out.trans (hbq.out.mono hbel.out.size))
        by_cases hlj : j < k
        · have hlj2 : (j : Int) < (k : Int) := by omega
          have hks : IntKind.i64.wrap ((j : Int) + 1) = (j : Int) + 1 := by rw [IntKind.wrap_i64]; omega
          obtain ⟨g, hg⟩ : ∃ g, fs[j]? = some g := ⟨_, List.getElem?_eq_getElem (by have := HN.out; omega)⟩
          have HG := hid hg
          obtain ⟨kb, a2, c2, b, rfl, _, d0, d1, d2, d3, d4, d5⟩ := HL2.out j g hg
          have c0 := (hbq.out.cell (p := ⟨kb, j * 4, none⟩) (World.block_lt_of_cell? _ _ d0)).trans d0
          have c1 := (hbq.out.cell (p := ⟨kb, j * 4 + 1, none⟩) (World.block_lt_of_cell? _ _ d1)).trans d1
          have c2' := (hbq.out.cell (p := ⟨kb, j * 4 + 2, none⟩) (World.block_lt_of_cell? _ _ d2)).trans d2
          have c3 := (hbq.out.cell (p := ⟨kb, j * 4 + 3, none⟩) (World.block_lt_of_cell? _ _ d3)).trans d3
          have HFO := hid (HOK.out g (List.mem_of_getElem? hg))
          have HND := hid d4
          have HPD := hid d5
          have hck2 := hck.out
          rw [List.drop_eq_getElem_cons (by have := HN.out; omega), show fs[j]'(by have := HN.out; omega) = g from Option.some.inj ((List.getElem?_eq_getElem _).symm.trans hg), ckl] at hck2
          have HCK := hid hck2
          clear d0 d1 d2 d3 d4 d5 hg hck hck2
          go_wp2_with fail
          have hbA : Below wr.heap.size wr (wr.alloc (.cells #[.string (bs g.name), .int .i64 (g.at' : Int), .slice a2 g.more.length c2, .pointer (some ⟨b, 0, none⟩)] 40)) := (Below.refl _ _).alloc (Nat.le_refl _) _
          have HF : Hid (∀ i v, [Value.string (bs g.name), .int .i64 (g.at' : Int), .slice a2 g.more.length c2, .pointer (some ⟨b, 0, none⟩)][i]? = some v → (wr.alloc (.cells #[.string (bs g.name), .int .i64 (g.at' : Int), .slice a2 g.more.length c2, .pointer (some ⟨b, 0, none⟩)] 40)).cell? ⟨wr.heap.size, i, none⟩ = some v) := fun i v hi => by
            have := cell_four_new wr _ _ _ _ 40 i v hi
            rwa [show (⟨wr.heap.size, 0, none⟩ : Addr).add i = ⟨wr.heap.size, i, none⟩ by unfold Addr.add; split <;> simp_all] at this
          have HBQ := hid (hbq.out.trans (hbA.mono hbq.out.size))
          have hzA : wr.heap.size < (wr.alloc (.cells #[.string (bs g.name), .int .i64 (g.at' : Int), .slice a2 g.more.length c2, .pointer (some ⟨b, 0, none⟩)] 40)).heap.size := by simp
          have HCO := hid (containsF_any 24 c j #[.pointer (some ⟨wr.heap.size, 0, none⟩)] (some ⟨kb, 0, none⟩) fs (fun h => h.name == g.name) (wr.alloc (.cells #[.string (bs g.name), .int .i64 (g.at' : Int), .slice a2 g.more.length c2, .pointer (some ⟨b, 0, none⟩)] 40))
            (by have := HN.out; omega) (by have := HN.out; omega) (HL2.out.below HBQ.out) (entersF Tryd.func24 (by kernel_rfl) (by kernel_rfl))
            (fun W g' a' c' b' hW => same1_any wr.heap.size g' g.name a' c' b' W ((hW.cell (p := ⟨wr.heap.size, 0, none⟩) hzA).trans (HF.out 0 _ rfl))))
          clear hbA c0 c1 c2' c3 hbq HBW
          generalize wr.alloc (.cells #[.string (bs g.name), .int .i64 (g.at' : Int), .slice a2 g.more.length c2, .pointer (some ⟨b, 0, none⟩)] 40) = wA at *
          refine HCO.out.mono ?_
          rintro e wB ⟨rfl, hbB⟩
          have HBB := hid (HBQ.out.trans (hbB.mono HBQ.out.size))
          have f0 := (hbB.cell (p := ⟨wr.heap.size, 0, none⟩) hzA).trans (HF.out 0 _ rfl)
          have f1 := (hbB.cell (p := ⟨wr.heap.size, 1, none⟩) hzA).trans (HF.out 1 _ rfl)
          have f2 := (hbB.cell (p := ⟨wr.heap.size, 2, none⟩) hzA).trans (HF.out 2 _ rfl)
          have f3 := (hbB.cell (p := ⟨wr.heap.size, 3, none⟩) hzA).trans (HF.out 3 _ rfl)
          have HBW := hid (hbel.out.trans (HBB.out.mono hbel.out.size))
          clear hbB HCO HF HBQ hzA
          cases hE : (fs.take j).any (fun h => h.name == g.name) with
          | true =>
            have hre : res = some (4, g.at') := by
              have h1 := HCK.out
              rw [if_pos hE] at h1
              rw [hres.out]
              unfold ckn
              rw [h1]
            subst hre
            clear hE HCK
            go_wp2_with fail
            exact ⟨rfl, HRP.out _ _ ⟨HBW.out, rfl⟩⟩
          | false =>
            have h1 := HCK.out
            rw [if_neg (by simp [hE])] at h1
            have HC2 := hid h1
            have HCW := hid (checkWithin_any (sgF fs) w.heap.size g a2 c2 b M wB (NmB.keep (B := fun x => 0 ≤ x) (B' := fun x => 0 ≤ x) HND.out (fun x hx hl => ⟨hx, HBB.out.block x hl⟩)) (HPD.out.below HBB.out) HFO.out.2.2.2 HFO.out.2.1 HFO.out.2.2.1 (hM.out.below HBB.out) HMS.out)
            clear hE HCK h1
            cases hcw : ckw (sgF fs) g with
            | none =>
              rw [hcw] at HC2 HCW
              clear hcw
              go_wp2_with fail
              refine HCW.out.mono ?_
              rintro e wC ⟨hbC, v, rfl⟩
              have HBC := hid (HBB.out.trans (hbC.mono HBB.out.size))
              clear hbC HCW
              go_wp2_with fail
              go_roundw
              case rel => exact ⟨j + 1, by omega, by go_num, HC2, HBC⟩
              case measure => simp [intOf]; omega
            | some y =>
              rw [hcw] at HC2 HCW
              have hre : res = some y := by
                rw [hres.out]
                unfold ckn
                rw [HC2.out]
              subst hre
              clear hcw
              go_wp2_with fail
              refine HCW.out.mono ?_
              rintro e wC ⟨hbC, rfl⟩
              exact ⟨rfl, HRP.out _ _ ⟨HBW.out.trans (hbC.mono HBW.out.size), rfl⟩⟩
        · obtain rfl : j = k := by omega
          have hlj2 : ¬ (j : Int) < (j : Int) := by omega
          have hck2 := hck.out
          rw [HN.out, List.drop_length, ckl] at hck2
          have HCO := hid (containsF_any 26 c j #[] a fs (fun h => h.name == mainW) wr (by have := HN.out; omega) (by have := HN.out; omega) (HL2.out.below hbq.out) (entersF Tryd.func26 (by kernel_rfl) (by kernel_rfl)) (fun W g' a' c' b' _ => isMain_any g' a' c' b' W))
          have hE : (fs.take j).any (fun h => h.name == mainW) = fs.any (fun h => h.name == mainW) := by rw [HN.out, List.take_length]
          rw [hE] at HCO
          have HRE : Hid (res = if fs.any (fun h => h.name == mainW) then none else some (6, T.size)) := by
            unfold Hid
            rw [hres.out]
            unfold ckn
            rw [hck2]
          clear hE hck hck2 hbq
          generalize fs.any (fun h => h.name == mainW) = E at *
          go_wp2_with fail
          refine HCO.out.mono ?_
          rintro e wC ⟨rfl, hbC⟩
          have HBC := hid (HBW.out.trans (hbC.mono HBW.out.size))
          clear hbC HCO
          cases E with
          | true =>
            have hre := HRE.out
            simp at hre
            subst hre
            clear HRE
            go_wp2_with fail
            go_end0
            exact HRP.out _ _ ⟨HBC.out, _, rfl⟩
          | false =>
            have hre := HRE.out
            simp at hre
            subst hre
            clear HRE
            go_wp2_with fail
            exact ⟨rfl, HRP.out _ _ ⟨HBC.out, rfl⟩⟩

end Go.Proofs.YthpkcageimhgaaaDoor
