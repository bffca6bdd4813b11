/- What primeDivisors answers: a new list of the primes that divide its number; nothing that was there has turned. -/
import Derived.Test.YtidkhgplejglaacDoorWalkA
namespace Go.Proofs.YtidkhgplejglaacDoor
open Go.RowKit

theorem Tryd.infoInt : (Tryd.prog.info? 3).map (fun i => (i.zero, i.size, i.bytes)) = some (some (.int .i64 0), 1, 8) := by kernel_rfl

/-- numbers as cells -/
def cellsOf (ds : List Nat) : List Value := ds.map (fun d : Nat => Value.int .i64 d)

theorem cellsOf_snoc (ds : List Nat) (d : Nat) : cellsOf (ds ++ [d]) = cellsOf ds ++ [.int .i64 d] := by simp [cellsOf]

theorem div_mod_nat (m d : Nat) : ((m : Int) % (d : Int) == 0) = (m % d == 0) := by
  rw [Bool.eq_iff_iff, beq_iff_eq, beq_iff_eq]; omega

set_option maxRecDepth 100000 in
set_option maxHeartbeats 400000 in
theorem primes_any (n : Nat) (w : World) (h1 : 1 ≤ n) (hm : n ≤ 2147483647) :
    Calls Tryd.prog 64 #[.int .i64 n] w fun e w' => ∃ v ds, e = .returned v ∧ Num.Primes n ds ∧
      w'.ownsRow w.heap.size 3 1 v ds.length (cellsOf ds) ∧ Below w.heap.size w w' := by
  obtain ⟨i0, hi, hz0, hz1, hz2⟩ := info_parts Tryd.infoInt
  go_enter Tryd.func64, Tryd.ntmps64
  go_wp2
  go_loopw [0, 3] (fun nv v wr => ∃ (m : Nat) (ds : List Nat), m ≤ 2147483647 ∧ nv = .int .i64 m ∧ Hid (Num.PD n m ds) ∧ wr.ownsRow w.heap.size 3 1 v ds.length (cellsOf ds) ∧ Below w.heap.size w wr)
    (fun nv _ _ => (intOf nv).toNat)
  case atStart => exact ⟨n, [], hm, rfl, Num.PD.start h1, World.ownsRow_nil _ _ _ _, Below.refl _ _⟩
  case round =>
    obtain ⟨m, ds, hm2, rfl, hpd, hown, hbel⟩ := hrel
    have hlen := hpd.out.len hm
    have hsz := hbel.size
    by_cases hlt : 1 < m
    · have hlt2 : (1 : Int) < (m : Int) := by omega
      go_wp2_with fail
      refine (least_any m _ (by omega) (by omega)).mono ?_
      rintro e w1 ⟨d, rfl, hleast, rfl⟩
      have HL := hid hleast
      clear hleast
      have hd2 : 2 ≤ d := HL.out.1
      have hdm : d ≤ m := Nat.le_of_dvd (by omega) HL.out.2.1
      go_wp2_with (at_builtin; refine wpList_append_own _ rfl _ _ 27 rfl w.heap.size 3 i0 (.int .i64 0) 1 8 Tryd.underlying27 hi hz0 hz1 hz2 rfl (by decide) _ _ _ rfl (hown.alloc _) ⟨w1.heap.size, 0, none⟩ 1 1 [.int .i64 d] rfl rfl ?c1 ?c2 ?c3 ?c4 ?c5 ?_)
      case c1 =>
        intro j u hj
        match j, hj with
        | 0, hj => simp at hj; subst hj; simp [Addr.add]
      case c2 => intro u hu; simp at hu; subst hu; rfl
      case c3 => unfold maxLen; omega
      case c4 => omega
      case c5 => simp; omega
      intro v' w2 hown2 hgrow _
      have hown3 : w2.ownsRow w.heap.size 3 1 v' (ds ++ [d]).length (cellsOf (ds ++ [d])) := by
        rw [List.length_append, List.length_singleton, cellsOf_snoc]; exact hown2
      have hbel2 : Below w.heap.size w w2 :=
        (hbel.alloc hsz _).grown hgrow (by simp; omega) (fun k hk => (hown.lt k hk).1)
      have HO := hid hown3
      have HB := hid hbel2
      clear hown2 hown3 hgrow hbel2 hown hbel
      go_wp2_with fail
      go_loop [0] (fun nv => ∃ k : Nat, k ≤ m ∧ nv = .int .i64 k ∧ Hid (Num.PO d m k)) (fun nv => (intOf nv).toNat)
      case atStart => exact ⟨m, Nat.le_refl _, rfl, Num.PO.start (by omega)⟩
      case round =>
        obtain ⟨k, hk, rfl, hpo⟩ := hrel
        have hk1 := hpo.out.pos
        by_cases hdk : d ∣ k
        · have hmod : ((k : Int) % (d : Int) == 0) = true := by
            rw [beq_iff_eq]; exact Int.emod_eq_zero_of_dvd (Int.ofNat_dvd.2 hdk)
          have HD := hid hdk
          clear hdk
          have hlt3 : k / d < k := Nat.div_lt_self (by omega) (by omega)
          have q1 : 0 ≤ (k : Int) / (d : Int) := Int.ediv_nonneg (by omega) (by omega)
          have q2 : (k : Int) / (d : Int) ≤ 2147483647 := by omega
          go_wp2
          go_round
          case rel => exact ⟨k / d, by omega, by go_num, hid (hpo.out.step (Num.least_prime HL.out) HD.out)⟩
          case measure => simp [intOf]; omega
        · have hmod : ((k : Int) % (d : Int) == 0) = false := by
            rw [beq_eq_false_iff_ne]; intro g; exact hdk (Int.ofNat_dvd.1 (Int.dvd_of_emod_eq_zero g))
          have HD := hid hdk
          clear hdk
          have R := hpd.out.step HL.out hpo.out HD.out
          go_wp2
          exact ⟨⟨k, ds ++ [d], by omega, rfl, R.1, HO.out, HB.out⟩, by have := R.2; simp [intOf]; omega⟩
    · go_wp2
      go_ret
      exact ⟨_, ds, rfl, hpd.out.done (by omega) hm, hown, hbel⟩

end Go.Proofs.YtidkhgplejglaacDoor
