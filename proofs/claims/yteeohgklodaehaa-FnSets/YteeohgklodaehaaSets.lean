/-
  FnSets answers true at every code, for chapter 1's functions keep promise 1; no condition.
-/
import Derived.Test.YteeohgklodaehaaRows
import Derived.WalkKit
import Derived.ProofKit
import Derived.OpenShut
import Derived.Test.YteeohgklodaehaaDraw
import Derived.ShutString
import Derived.ChangeOld
import Derived.Below
namespace Go.Proofs.Yteeohgklodaehaa.fnSets
open Go.ChangeShapes Go.WideShapes Go.ChangeAt Go.RowKit
open Go.ChangeMaps (open_string shut_string)
set_option linter.unusedVariables false

theorem own : ownKnob Try.prog.godebug = none := by kernel_rfl
theorem laidOut : laidOutB Try.prog = true := by kernel_rfl

/-- WHAT THE WALK IS TOLD OF A SLICE OF INTEGERS THAT CAME IN: it is nil; or it leads to a row of 'cap' cells, the numbers 'zs' (the first 'len' are its elements, the rest its spare room), each fitting its kind. -/
def IsRow (k : IntKind) (w : World) (a : Option Addr) (len cap : Nat) (zs : List Int) : Prop :=
  (a = none ∧ len = 0 ∧ cap = 0 ∧ zs = []) ∨
  ∃ x, a = some x ∧ len ≤ cap ∧ cap ≤ maxLen ∧ zs.length = cap ∧ (∀ i, i < zs.length → w.cell? (x.add i) = some (.int k (zs.getD i 0))) ∧ ∀ n ∈ zs, (Lit.int k n).wf = true

/-- what InSet answers -/
def inI (s i : Int) : Bool := Base.okB s && (Base.inB i && Bit.bit s i.toNat)

theorem implIn (s i : Int) (w : World) : Calls Try.prog 15 #[.int .i64 s, .int .i64 i] w fun e w' => e = .returned (.bool (inI s i)) ∧ w = w' := Base.implIn s i w
theorem specIn (s i : Int) (w : World) : Calls Try.prog 16 #[.int .i64 s, .int .i64 i] w fun e w' => e = .returned (.bool (inI s i)) ∧ w = w' := Base.specIn s i w

theorem getD_left (l r : List Int) (j : Nat) (h : j < l.length) : (l ++ r).getD j 0 = l.getD j 0 := by simp [List.getD, List.getElem?_append_left h]
theorem getD_right (l r : List Int) (j : Nat) (h : l.length ≤ j) : (l ++ r).getD j 0 = r.getD (j - l.length) 0 := by simp [List.getD, List.getElem?_append_right h]

theorem up_memTo (s : Int) (k : Nat) : Lst.Up (Bit.memTo s k) := by
  induction k with
  | zero => intro j hj; simp [Bit.memTo] at hj
  | succ k ih =>
    intro j hj
    rw [Bit.memTo_succ] at hj ⊢
    by_cases hb : Bit.bit s k
    · simp only [hb, if_true, List.length_append, List.length_cons, List.length_nil] at hj ⊢
      by_cases hl : j + 1 < (Bit.memTo s k).length
      · have := ih j hl
        rw [getD_left _ _ _ (by omega), getD_left _ _ _ hl]; exact this
      · have e : j + 1 = (Bit.memTo s k).length := by omega
        rw [getD_left _ _ _ (by omega), getD_right _ _ _ (by omega), e]
        simp only [Nat.sub_self, List.getD_cons_zero]
        have hm : (Bit.memTo s k).getD j 0 ∈ Bit.memTo s k := by
          have hj' : j < (Bit.memTo s k).length := by omega
          simp [List.getD, List.getElem?_eq_getElem hj']
        obtain ⟨m, hm1, hm2, _⟩ := (Bit.mem_memTo s k _).1 hm
        rw [hm2]; omega
    · simp only [hb, Bool.false_eq_true, if_false, List.append_nil] at hj ⊢
      exact ih j hj

theorem up_memI (s : Int) : Lst.Up (Memb.memI s) := by
  unfold Memb.memI; split
  · exact up_memTo s 60
  · intro j hj; simp at hj

theorem inL_memI (s : Int) (k : Nat) (hk : k < 60) : Lst.inL (Memb.memI s) (k : Int) = inI s (k : Int) := by
  rw [Bool.eq_iff_iff, Lst.inL_iff]
  have hi : Base.inB (k : Int) = true := (Base.inB_iff _).2 ⟨by omega, by omega⟩
  unfold Memb.memI inI
  cases ho : Base.okB s
  · simp
  · simp only [if_true, hi, Bool.true_and, Int.toNat_natCast]
    rw [Bit.mem_memTo]
    constructor
    · rintro ⟨j, _, hj, hb⟩
      have : k = j := by omega
      rw [this]; exact hb
    · intro hb; exact ⟨k, hk, rfl, hb⟩

theorem inI_with (s i : Int) (k : Nat) (hk : k < 60) (ho : Base.okB s = true) (hi : Base.inB i = true) : inI (Base.withI s i) (k : Int) = (((k : Int) == i) || inI s (k : Int)) := by
  have hik : Base.inB (k : Int) = true := (Base.inB_iff _).2 ⟨by omega, by omega⟩
  obtain ⟨h0, h1⟩ := (Base.okB_iff s).1 ho
  obtain ⟨h2, h3⟩ := (Base.inB_iff i).1 hi
  have hw := Bit.withB_bd s h0 h1 i.toNat (by omega)
  have how : Base.okB (Bit.withB s i.toNat) = true := (Base.okB_iff _).2 hw
  unfold inI Base.withI
  rw [ho, hi]
  simp only [Bool.and_self, if_true, how, hik, Bool.true_and, Int.toNat_natCast]
  rw [Bit.bit_withB s h0]
  have e : decide (k = i.toNat) = ((k : Int) == i) := by rw [Bool.eq_iff_iff]; simp; omega
  rw [e]

theorem code_of {w : World} {a : Option Addr} {len cap : Nat} {zs : List Int} (h : IsRow .u8 w a len cap zs) : Cur.Code w a len := by
  rcases h with ⟨_, h, _, _⟩ | ⟨x, rfl, hl, _, hz, hcell, hwz⟩
  · exact .inl h
  · by_cases h0 : len = 0
    · exact .inl h0
    · obtain ⟨b, off, spot⟩ := x
      have hc := hcell 0 (by omega)
      have hspot : spot = none := by simpa [Addr.add] using World.cell?_spot hc
      subst hspot
      refine .inr ⟨b, off, rfl, ?_, fun j hj => ?_⟩
      · have := block_lt_of_cell hc; simpa [Addr.add] using this
      · have hcj := hcell j (by omega)
        have hj' : j < zs.length := by omega
        have hw := hwz (zs.getD j 0) (by simp [List.getD, List.getElem?_eq_getElem hj'])
        refine ⟨zs.getD j 0, ?_, ?_⟩
        · by_cases hj0 : j = 0
          · subst hj0; simpa [Addr.add] using hcj
          · simpa [Addr.add, hj0] using hcj
        simpa [Lit.wf, IntKind.min, IntKind.max, IntKind.signed, IntKind.bits] using hw

set_option maxHeartbeats 6400000 in
theorem walk (a0 : Option Addr) (len0 cap0 : Nat) (z0 : List Int) (w : World) (w0 : IsRow .u8 w a0 len0 cap0 z0) :
    Calls Try.prog 3 #[.slice a0 len0 cap0] w fun e w' => e = .returned (.bool true) ∧ Below w.heap.size w w' := by
  have hcode := code_of w0
  clear w0
  by_cases hbig : 4096 < len0
  · have hb' : (4096 : Int) < (len0 : Int) := by omega
    go_enter Try.func3, Try.ntmps3
    go_wp2
    go_ret
    exact ⟨rfl, Below.refl _ _⟩
  · have hb' : ¬ (4096 : Int) < (len0 : Int) := by omega
    have hle0 : len0 ≤ 4096 := by omega
    clear hbig
    go_enter Try.func3, Try.ntmps3
    go_wp2_with (first | (go_at_call 4; go_in) | fail)
    refine (Draw.drawWith _ _ _ _ hle0 hcode).mono ?_
    rintro e w1 ⟨s, i, rfl, hs, hi, hb1⟩
    clear hcode
    go_wp2_with fail
    refine (Base.implWith _ _ _).mono ?_
    rintro e w1' ⟨rfl, rfl⟩
    go_wp2_with fail
    refine (Memb.implMembers _ _).mono ?_
    rintro e w2 ⟨mo, mc, rfl, hown, hb2⟩
    have hb02 := hb1.trans (hb2.mono hb1.size)
    clear hb2
    go_wp2_with fail
    refine (Base.specWith _ _ _).mono ?_
    rintro e w2' ⟨rfl, rfl⟩
    go_wp2_with fail
    refine (Memb.specMembers _ _).mono ?_
    rintro e w3 ⟨no, nc, rfl, hown3, hb3⟩
    have hm3 := Lst.own_below hown hb3
    have hb03 := hb02.trans (hb3.mono hb02.size)
    have hle := Memb.memI_le s
    have hle' : (Memb.memI s).length ≤ 1000000 := by omega
    clear hb3 hb02 hb1 hown
    go_wp2_with fail
    refine (Lst.alike _ _ _ _ _ _ hle' (Lst.own_rd hm3) (Lst.own_rd hown3)).mono ?_
    rintro e w4 ⟨rfl, n4, rfl⟩
    go_wp2_with fail
    refine (Memb.implSize _ _).mono ?_
    rintro e w4' ⟨rfl, rfl⟩
    go_wp2_with fail
    refine (Memb.specSize _ _).mono ?_
    rintro e w5 ⟨rfl, hb5⟩
    have hm5 := Lst.own_below (Lst.own_drewN hm3 n4) hb5
    have hb05 := (below_drewN hb03 n4).trans (hb5.mono hb03.size)
    clear hb5 hb03 hm3 hown3
    go_wp2_with fail
    refine (Base.implOk _ _).mono ?_
    rintro e w5' ⟨rfl, rfl⟩
    go_wp2_with fail
    refine (Base.specOk _ _).mono ?_
    rintro e w5' ⟨rfl, rfl⟩
    go_wp2_with fail
    refine (implIn _ _ _).mono ?_
    rintro e w5' ⟨rfl, rfl⟩
    go_wp2_with fail
    refine (specIn _ _ _).mono ?_
    rintro e w5' ⟨rfl, rfl⟩
    go_wp2_with fail
    refine (Lst.rises _ _ _ _ hle' (up_memI s) (Lst.own_rd hm5)).mono ?_
    rintro e w6 ⟨rfl, n6, rfl⟩
    go_wp2_with fail
    refine (Base.specOk _ _).mono ?_
    rintro e w6' ⟨rfl, rfl⟩
    have hb06 := below_drewN hb05 n6
    have hm6 := Lst.own_drewN hm5 n6
    clear hb05 hm5
    generalize (w5.drewN n6) = w6 at hb06 hm6 ⊢
    cases ho : Base.okB s
    · have h1 : Base.withI s i = s := by simp [Base.withI, ho]
      have h2 : Memb.memI s = [] := by simp [Memb.memI, ho]
      have h3 : Memb.sizeI s = -1 := by simp [Memb.sizeI, ho]
      rw [h1, h2]
      clear h1 h2
      have HS : Hid (Memb.sizeI s = -1) := h3
      clear h3
      go_wp2_with fail
      refine (Memb.implSize _ _).mono ?_
      rintro e w6' ⟨rfl, rfl⟩
      rw [HS.out]
      go_wp2
      go_ret
      exact ⟨rfl, hb06⟩
    · cases hi' : Base.inB i
      · have h1 : Base.withI s i = s := by simp [Base.withI, hi']
        rw [h1]
        clear h1
        have HI : Hid (inI s i = false) := by show inI s i = false; simp [inI, hi']
        by_cases hneg : i < 0
        · go_wp2_with fail
          refine (implIn _ _ _).mono ?_
          rintro e w6' ⟨rfl, rfl⟩
          rw [HI.out]
          go_wp2
          go_ret
          exact ⟨rfl, hb06⟩
        · have hgt : 59 < i := by
            apply Classical.byContradiction; intro h
            have := (Base.inB_iff i).2 ⟨by omega, by omega⟩
            rw [hi'] at this; exact Bool.noConfusion this
          go_wp2_with fail
          refine (implIn _ _ _).mono ?_
          rintro e w6' ⟨rfl, rfl⟩
          rw [HI.out]
          go_wp2
          go_ret
          exact ⟨rfl, hb06⟩
      · obtain ⟨hi0, hi1⟩ := (Base.inB_iff i).1 hi'
        have HO : Hid (Base.okB s = true) := ho
        have HI : Hid (Base.inB i = true) := hi'
        clear ho hi' hi hs
        go_wp2_with fail
        go_loop [7] (fun t => ∃ k : Nat, k ≤ 60 ∧ t = .int .i64 k) (fun t => 60 - (intOf t).toNat)
        case atStart => exact ⟨0, by omega, rfl⟩
        case round =>
          obtain ⟨k, hk, rfl⟩ := hrel
          by_cases hlt : k < 60
          · have HW : Hid (inI (Base.withI s i) (k : Int) = (((k : Int) == i) || inI s (k : Int))) := inI_with s i k hlt HO.out HI.out
            have HL : Hid (Lst.inL (Memb.memI s) (k : Int) = inI s (k : Int)) := inL_memI s k hlt
            cases hki : ((k : Int) == i)
            · go_wp2_with fail
              refine (implIn _ _ _).mono ?_
              rintro e w6' ⟨rfl, rfl⟩
              rw [HW.out, hki, Bool.false_or]
              go_wp2_with fail
              refine (implIn _ _ _).mono ?_
              rintro e w6' ⟨rfl, rfl⟩
              go_wp2_with fail
              refine (Lst.isIn _ _ _ _ _ hle' (Lst.own_rd hm6)).mono ?_
              rintro e w6' ⟨rfl, rfl⟩
              rw [HL.out]
              go_wp2_with fail
              refine (implIn _ _ _).mono ?_
              rintro e w6' ⟨rfl, rfl⟩
              go_wp2
              go_round
              case rel => exact ⟨k + 1, by omega, by go_num⟩
              case measure => simp [intOf]; omega
            · go_wp2_with fail
              refine (implIn _ _ _).mono ?_
              rintro e w6' ⟨rfl, rfl⟩
              rw [HW.out, hki, Bool.true_or]
              go_wp2_with fail
              refine (Lst.isIn _ _ _ _ _ hle' (Lst.own_rd hm6)).mono ?_
              rintro e w6' ⟨rfl, rfl⟩
              rw [HL.out]
              go_wp2_with fail
              refine (implIn _ _ _).mono ?_
              rintro e w6' ⟨rfl, rfl⟩
              go_wp2
              go_round
              case rel => exact ⟨k + 1, by omega, by go_num⟩
              case measure => simp [intOf]; omega
          · have HS : Hid (Memb.sizeI s = ((Memb.memI s).length : Int)) := by
              show Memb.sizeI s = _
              simp [Memb.sizeI, Memb.memI, HO.out]
            go_wp2_with fail
            refine (Memb.implSize _ _).mono ?_
            rintro e w6' ⟨rfl, rfl⟩
            rw [HS.out]
            go_wp2
            go_ret
            exact ⟨rfl, hb06⟩

/-! ### the row's step -/
set_option maxRecDepth 100000 in
theorem lifted (os : Os) (started : os.Started) (H : Type) (enc : TypeId × Value → H) :
    ReturnsInHanded {} Try.checked os 3 .any (Rows.fnSetsSpec.pre6 enc Try.prog Try.f3 Rows.fnSetsRow.domain false) (Rows.fnSetsSpec.post enc Try.prog Try.f3 false true false false) := by
  refine returnsInHanded_of_change (C := Try.checked) own started (by kernel_rfl) Try.func3
    (ChangeSpec.witness6 (enc := enc) (C := Try.checked) false ⟨#[], #[.slice none 0 0], []⟩ 8 (by kernel_rfl) (by kernel_rfl) (by kernel_rfl) (by kernel_rfl)) ?_
  intro W base args ds gs before hval0 hW hcnd _
  have hval : ∀ (j : Nat) t v, Try.f3.params[j]? = some t → args[j]? = some v → Value.okWide Try.prog W .any base t v := hval0
  have hW' := hW
  obtain ⟨p, q, hA0, hV, rfl, hfz, hnd⟩ := hW
  have hA : DataW.TrodAll enc Try.prog W 0 (fun _ => true) true Try.f3.params.toList args.toList ds p := hA0
  rw [Try.params3] at hA hval
  obtain ⟨v0, vs0, d0, ds0, p0, q0, hargs, rfl, rfl, h0, r0⟩ := trodAll_cons hA
  obtain ⟨rfl, rfl, rfl⟩ := trodAll_nil r0
  obtain rfl : args = #[v0] := by cases args; simp_all
  obtain ⟨rfl, rfl⟩ := trodVars_none hV
  obtain ⟨a0, len0, cap0, rfl⟩ := okWide_slice Try.underlying22 (hval 0 22 v0 rfl rfl)
  have k0 := h0
  have lt0 : ∀ x ∈ p0, x.block < W.heap.size := by obtain ⟨m, hm⟩ := k0; exact DataW.trod_lt m _ _ _ hm
  obtain ⟨z0, w0⟩ : ∃ zs, IsRow .u8 W a0 len0 cap0 zs := by
    obtain ⟨fuel, hf⟩ := h0
    rcases open_ints Try.underlying22 Try.underlying5 (by kernel_rfl) hf with ⟨hcs, _⟩ | ⟨x, l, c, zs, hcs, _, hl, hm, hz, _, hcell, hwz⟩
    · simp [Value.cells] at hcs
      obtain ⟨rfl, rfl, rfl⟩ := hcs
      exact ⟨[], .inl ⟨rfl, rfl, rfl, rfl⟩⟩
    · simp [Value.cells] at hcs
      obtain ⟨rfl, rfl, rfl⟩ := hcs
      exact ⟨zs, .inr ⟨_, rfl, hl, hm, by simpa using hz, hcell, hwz⟩⟩
  clear hA0 hval0
  refine (walk a0 len0 cap0 z0 W w0).mono fun e W' ⟨he, bel⟩ => ?_
  subst he
  exact ⟨_, rfl, _, _, _, [], _, [], hW', trodAll_mk1 (shut_bool Try.underlying4 _), (trodAll_cons_mk (Below.trod laidOut (by kernel_rfl) (of_decide_eq_true (by kernel_rfl)) k0 bel lt0) trodAll_mk0), rfl, bel.frame _, fun h => by cases h⟩

theorem over : Rows.fnSetsRow.holds Try.pinned (OpenSpec.ofChange Rows.fnSetsSpec) :=
  OpenClaim.holds_of_wide 3 Try.f3 rfl rfl rfl rfl rfl rfl rfl ⟨rfl, rfl, rfl, rfl, rfl⟩ rfl rfl rfl rfl rfl (by kernel_rfl) Try.func3 (by kernel_rfl)
    (of_decide_eq_true (by kernel_rfl)) (by unfold Func.isWrapper; first | (rw [if_pos (by decide +kernel)]; kernel_rfl) | (rw [if_neg (by decide +kernel)]; exact ⟨rfl, rfl⟩))
    (fun os started H enc _ => lifted os started H enc)

theorem proved : Rows.FnSetsSaid := over
end Go.Proofs.Yteeohgklodaehaa.fnSets
