/-
  What the model's draws for chapter 1 do: they answer a number for a set and one for a member, whatever these are, and write into nothing that was there; for codes of at most 4096 bytes.
-/
import Derived.Test.YteeohgklodaehaaCur
import Derived.Test.YteeohgklodaehaaLike
import Derived.Deep.RegionWith
namespace Go.Proofs.Yteeohgklodaehaa
open Go.RowKit
namespace Draw
open Cur (At)

theorem bits_bd (op : BinOp) (x y : Int) : -9223372036854775808 ≤ bits op .i64 x y ∧ bits op .i64 x y ≤ 9223372036854775807 := by
  unfold bits
  simp only [IntKind.wrap, IntKind.bits, IntKind.signed]
  simp
  omega

theorem kept_cell {w w1 : World} {c g j : Nat} {v : Value} (hG : w.grownBy w1 (some c)) (hg : g ≠ c) (h : w.cell? ⟨g, j, none⟩ = some v) : w1.cell? ⟨g, j, none⟩ = some v :=
  hG.cell h (by simpa using hg)

theorem at_alloc {c : Nat} {a : Option Addr} {len cap : Nat} {w : World} (h : At c a len cap w) (o : Obj) : At c a len cap (w.alloc o) := h.below ((Below.refl _ _).alloc (Nat.le_refl _) _)

/-- a number of a list that is written out -/
theorem lit_int {w w2 : World} {c : Nat} {t : TypeId} {l : List Int} (hc : c < w.heap.size) (hG : (w.alloc (.cells (l.map (Value.int .i64)).toArray t)).grownBy w2 (some c)) (j : Nat) (hj : j < l.length)
    (hl : ∀ x ∈ l, -9223372036854775808 ≤ x ∧ x ≤ 9223372036854775807) : ∃ v : Int, w2.cell? ⟨w.heap.size, j, none⟩ = some (.int .i64 v) ∧ -9223372036854775808 ≤ v ∧ v ≤ 9223372036854775807 := by
  refine ⟨l[j], kept_cell hG (by omega) ?_, hl _ (List.getElem_mem hj)⟩
  rw [World.cell?_alloc_new]
  simp [hj]

set_option maxHeartbeats 1600000 in
theorem drawSet (c : Nat) (a : Option Addr) (len cap : Nat) (w : World) (hl : len ≤ 4096) (hc : At c a len cap w) :
    Calls Try.prog 31 #[.pointer (some ⟨c, 0, none⟩)] w fun e w' => ∃ s : Int, e = .returned (.int .i64 s) ∧ (-9223372036854775808 ≤ s ∧ s ≤ 9223372036854775807) ∧ At c a len cap w' ∧ w.grownBy w' (some c) := by
  go_enter Try.func31, Try.ntmps31
  go_wp2_with fail
  refine (Cur.once c a len cap 8 _ hl (by omega) hc).mono ?_
  rintro e w1 ⟨b, rfl, hA, hG⟩
  cases b
  · go_wp2_with fail
    refine (Cur.below c a len cap 6 _ hl (by omega) hA).mono ?_
    rintro e w2 ⟨n, rfl, hn0, hn1, hA2, hG2⟩
    have hn2 := hn1 (by omega)
    clear hn1
    have G2 := Cur.grownBy_trans hG hG2
    go_wp2_with fail
    go_loopw [3, 4] (fun v i wr => ∃ s n : Int, v = .int .i64 s ∧ i = .int .i64 n ∧ 0 ≤ n ∧ n ≤ 6 ∧ -9223372036854775808 ≤ s ∧ s ≤ 9223372036854775807 ∧ At c a len cap wr ∧ w.grownBy wr (some c)) (fun _ i _ => (intOf i).toNat)
    case atStart => exact ⟨0, n, rfl, rfl, hn0, by omega, by omega, by omega, hA2, G2⟩
    case round =>
      clear hA2 G2 hG hG2 hA hc hn0 hn2
      obtain ⟨s, n, rfl, rfl, hn0, hn6, hs0, hs1, hA, hG⟩ := hrel
      by_cases hp : 0 < n
      · go_wp2_with fail
        refine (Cur.below c a len cap 60 _ hl (by omega) hA).mono ?_
        rintro e w3 ⟨x, rfl, hx0, hx1, hA3, hG3⟩
        have hx2 := hx1 (by omega)
        clear hx1
        have hb := bits_bd .or s (2 ^ x.toNat)
        have hw := Base.wrap_pow x.toNat (by omega)
        go_wp2
        go_roundw
        case rel => exact ⟨_, n - 1, rfl, rfl, by omega, by omega, hb.1, hb.2, hA3, Cur.grownBy_trans hG hG3⟩
        case measure => simp [intOf]; omega
      · go_wp2
        go_ret
        exact ⟨s, rfl, ⟨hs0, hs1⟩, hA, hG⟩
  · go_wp2_with fail
    refine (Cur.below c a len cap 4 _ hl (by omega) (at_alloc hA _)).mono ?_
    rintro e w2 ⟨x, rfl, hx0, hx1, hA2, hG2⟩
    have hx2 := hx1 (by omega)
    clear hx1
    obtain ⟨v, hv, hv0, hv1⟩ := lit_int (l := [-1, 1152921504606846975, 1152921504606846976, 4611686018427387904]) hA.lt hG2 x.toNat (by simp; omega) (by simp)
    have G2 : w.grownBy w2 (some c) := Cur.grownBy_trans (Cur.grownBy_trans hG (World.grownBy_alloc _ _ _)) hG2
    clear hG hG2
    go_wp2
    go_ret
    exact ⟨v, rfl, ⟨hv0, hv1⟩, hA2, G2⟩

theorem mem_bd (s : Int) (j : Nat) : -9223372036854775808 ≤ (Memb.memI s).getD j 0 ∧ (Memb.memI s).getD j 0 ≤ 9223372036854775807 := by
  by_cases h : j < (Memb.memI s).length
  · have hm : (Memb.memI s)[j] ∈ Memb.memI s := List.getElem_mem h
    have e : (Memb.memI s).getD j 0 = (Memb.memI s)[j] := by simp [h]
    rw [e]
    generalize (Memb.memI s)[j] = x at hm
    unfold Memb.memI at hm
    split at hm
    · obtain ⟨k, hk, rfl, _⟩ := (Bit.mem_memTo s 60 x).1 hm
      omega
    · simp at hm
  · have e : (Memb.memI s).getD j 0 = 0 := by simp [List.getD, List.getElem?_eq_none (Nat.le_of_not_lt h)]
    rw [e]; omega

theorem below_of_grown {w w1 w2 : World} {c : Nat} (h : Below w.heap.size w w1) (hc : w.heap.size ≤ c) (hg : w1.grownBy w2 (some c)) : Below w.heap.size w w2 :=
  h.grown hg h.size (fun k hk => by simp at hk; omega)

theorem own_grown {B c : Nat} {w w' : World} {ao : Option Addr} {cap : Nat} {l : List Int} (h : Memb.Own B w ao cap l) (hg : w.grownBy w' (some c)) (hc : c < B) : Memb.Own B w' ao cap l := by
  unfold Memb.Own at *
  refine World.ownsRow.kept h hg ?_
  by_cases hb : (Value.slice ao l.length cap).ownBlock = none
  · exact .inl hb
  · refine .inr (fun e => ?_)
    have := (World.ownsRow.lt h c e).1
    omega

/-- a number of the five -/
theorem lit_any {t : TypeId} (j : Nat) (hj : j < 5) : ∃ v : Int, (∀ W : World, (W.alloc (.cells #[.int .i64 (-1), .int .i64 0, .int .i64 59, .int .i64 60, .int .i64 7] t)).cell? ⟨W.heap.size, j, none⟩ = some (.int .i64 v)) ∧ -9223372036854775808 ≤ v ∧ v ≤ 9223372036854775807 := by
  have h : ∃ v : Int, (#[Value.int .i64 (-1), .int .i64 0, .int .i64 59, .int .i64 60, .int .i64 7] : Array Value)[j]? = some (.int .i64 v) ∧ -9223372036854775808 ≤ v ∧ v ≤ 9223372036854775807 := by
    match j, hj with
    | 0, _ => exact ⟨-1, rfl, by omega, by omega⟩
    | 1, _ => exact ⟨0, rfl, by omega, by omega⟩
    | 2, _ => exact ⟨59, rfl, by omega, by omega⟩
    | 3, _ => exact ⟨60, rfl, by omega, by omega⟩
    | 4, _ => exact ⟨7, rfl, by omega, by omega⟩
  obtain ⟨v, h1, h2⟩ := h
  exact ⟨v, fun W => by rw [World.cell?_alloc_new]; exact h1, h2⟩

set_option maxHeartbeats 3200000 in
theorem drawInSet (a : Option Addr) (len cap : Nat) (w : World) (hl : len ≤ 4096) (hc : Cur.Code w a len) :
    Calls Try.prog 19 #[.slice a len cap] w fun e w' => ∃ s i : Int, e = .returned (.tuple #[.int .i64 s, .int .i64 i]) ∧ (-9223372036854775808 ≤ s ∧ s ≤ 9223372036854775807) ∧ (-9223372036854775808 ≤ i ∧ i ≤ 9223372036854775807) ∧ Below w.heap.size w w' := by
  go_enter Try.func19, Try.ntmps19
  go_wp2_with fail
  refine (Cur.new a len cap _ hl hc).mono ?_
  rintro e w1 ⟨rfl, hA1, hb1⟩
  go_wp2_with fail
  refine (drawSet _ a len cap _ hl hA1).mono ?_
  rintro e w2 ⟨s, rfl, hs, hA2, hG2⟩
  have hb2 := below_of_grown hb1 (Nat.le_refl _) hG2
  go_wp2_with fail
  refine (Memb.specMembers _ _).mono ?_
  rintro e w3 ⟨ao, ca, rfl, hown, hb3⟩
  have hA3 := hA2.below hb3
  have hb03 := hb2.trans (hb3.mono hb2.size)
  have hlt2 := hA2.lt
  have hle := Memb.memI_le s
  clear hA1 hb1 hA2 hG2 hb2 hb3 hc
  by_cases hm : Memb.memI s = []
  · have hm0 : ((Memb.memI s).length : Int) = 0 := by rw [hm]; rfl
    have hmd : decide (0 < ((Memb.memI s).length : Int)) = false := by rw [hm0]; rfl
    go_wp2_with fail
    clear hm hm0 hmd hown
    go_region_with (go_at_call 33; refine (Cur.below _ a len cap 5 _ hl (by omega) ?_).mono ?_; (first | exact hA3.drewN 1 | exact at_alloc (hA3.drewN 1) _); rintro e w4 ⟨x, rfl, hx0, hx1, hA4, hG4⟩; have hx2 := hx1 (by omega); clear hx1; obtain ⟨v, hv, hv0, hv1⟩ := lit_any (t := 2) x.toNat (by omega); try (have hv4 : w4.cell? ⟨w3.heap.size, x.toNat, none⟩ = some (.int .i64 v) := kept_cell hG4 (by have := hA3.lt; omega) (hv w3.drew)))
    · go_wp2
      go_ret2
      exact ⟨s, v, rfl, hs, ⟨hv0, hv1⟩, below_of_grown (hb03.drew.alloc hb03.size _) (Nat.le_refl _) hG4⟩
    · go_wp2
      go_ret2
      have hb4 := below_of_grown hb03.drew (Nat.le_refl _) hG4
      exact ⟨s, v, rfl, hs, ⟨hv0, hv1⟩, hb4.alloc hb4.size _⟩
  · have hmp : 0 < (Memb.memI s).length := List.length_pos_iff.2 hm
    have hmi : (0 : Int) < ((Memb.memI s).length : Int) := by omega
    obtain ⟨g, rfl, hg, hg'⟩ := Lst.own_block hown hm
    go_wp2_with fail
    refine (Cur.once _ a len cap 2 _ hl (by omega) hA3).mono ?_
    rintro e w4 ⟨b, rfl, hA4, hG4⟩
    have hb04 := below_of_grown hb03 (Nat.le_refl _) hG4
    have hown4 := own_grown hown hG4 hlt2
    clear hA3 hb03 hG4 hown
    cases b
    · go_wp2_with fail
      clear hm hmp hmi hown4
      go_region_with (go_at_call 33; refine (Cur.below _ a len cap 5 _ hl (by omega) ?_).mono ?_; (first | exact hA4.drewN 1 | exact at_alloc (hA4.drewN 1) _); rintro e w5 ⟨x, rfl, hx0, hx1, hA5, hG5⟩; have hx2 := hx1 (by omega); clear hx1; obtain ⟨v, hv, hv0, hv1⟩ := lit_any (t := 2) x.toNat (by omega); try (have hv4 : w5.cell? ⟨w4.heap.size, x.toNat, none⟩ = some (.int .i64 v) := kept_cell hG5 (by have := hA4.lt; omega) (hv w4.drew)))
      · go_wp2
        go_ret2
        exact ⟨s, v, rfl, hs, ⟨hv0, hv1⟩, below_of_grown (hb04.drew.alloc hb04.size _) (Nat.le_refl _) hG5⟩
      · go_wp2
        go_ret2
        have hb5 := below_of_grown hb04.drew (Nat.le_refl _) hG5
        exact ⟨s, v, rfl, hs, ⟨hv0, hv1⟩, hb5.alloc hb5.size _⟩
    · go_wp2_with fail
      have hcell : ∀ j, j < (Memb.memI s).length → w4.cell? ⟨g, j, none⟩ = some (.int .i64 ((Memb.memI s).getD j 0)) := by
        rcases Lst.own_rd hown4 with h | ⟨g', hg2, h⟩
        · exact absurd h hm
        · simp only [Option.some.injEq, Addr.mk.injEq, and_true] at hg2; subst hg2; exact h
      have HC : Hid (∀ j, j < (Memb.memI s).length → w4.cell? ⟨g, j, none⟩ = some (.int .i64 ((Memb.memI s).getD j 0))) := hcell
      clear hcell hm hown4
      go_region_with (go_at_call 33; refine (Cur.below _ a len cap _ _ hl (by omega) ?_).mono ?_; (first | exact hA4.drewN 1); rintro e w5 ⟨x, rfl, hx0, hx1, hA5, hG5⟩; have hx2 := hx1 (by omega); clear hx1; obtain ⟨v, hv4, hvb⟩ : ∃ v : Int, w5.cell? ⟨g, x.toNat, none⟩ = some (.int .i64 v) ∧ (-9223372036854775808 ≤ v ∧ v ≤ 9223372036854775807) := ⟨_, kept_cell hG5 (by omega) (HC.out x.toNat (by omega)), mem_bd s _⟩)
      go_wp2
      go_ret2
      exact ⟨s, v, rfl, hs, hvb, below_of_grown hb04.drew (Nat.le_refl _) hG5⟩

set_option maxHeartbeats 800000 in
theorem drawWith (a : Option Addr) (len cap : Nat) (w : World) (hl : len ≤ 4096) (hc : Cur.Code w a len) :
    Calls Try.prog 5 #[.slice a len cap] w fun e w' => ∃ s i : Int, e = .returned (.tuple #[.int .i64 s, .int .i64 i]) ∧ (-9223372036854775808 ≤ s ∧ s ≤ 9223372036854775807) ∧ (-9223372036854775808 ≤ i ∧ i ≤ 9223372036854775807) ∧ Below w.heap.size w w' := by
  go_enter Try.func5, Try.ntmps5
  go_wp2_with fail
  refine (drawInSet a len cap _ hl hc).mono ?_
  rintro e w1 ⟨s, i, rfl, hs, hi, hb⟩
  go_wp2
  go_ret2
  exact ⟨s, i, rfl, hs, hi, hb⟩

end Draw
end Go.Proofs.Yteeohgklodaehaa
