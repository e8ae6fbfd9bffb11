/-
  What the program's own Earlier, ChainOf and OnChain answer, in the words of ChainS; for coins of at most 2^20 numbers and lists of knots whose words have at most 2^40 bytes.
  What the program's own sealedInItsWave and firm answer, in the words of ChainM.
  How a method of a value is called through a pointer to it.
  What the library's container/heap does with a heap of the program's own: over whatever its Less and Swap keep, in the words of HeapM.
  What the library's heap.Push, heap.Pop and heap.Init do with a heap of the program's own, in the words of HeapM.
  The leaders that wait, a heap of the program's own: what its five methods do.
  The leaders that wait: what is put in and taken out, and that the library's heap may ask them.
  The leaders that wait: the library's heap over them, and the next one.
  The program's waitingOf: the leaders of a set, in a heap.
  The program's earlier: of the leaders below one, from the last round to the first, the first that it seals.
  The walk of the program's earlier, for coins that are right and a lace.
  The library's slices.Reverse over a list of the call's own, and slices.Contains over any list of numbers.
  The walk of the program's chain: from leader to leader back, then turned round.
  The program's ledLace.
-/
import Derived.Test.YthdjfmndakeaiaaGreatChZb
import Derived.Test.YthdjfmndakeaiaaGreatBase
import Derived.Test.YthdjfmndakeaiaaGreatHeapM
import Derived.RegionTactic
import Derived.ChangeAlike
import Derived.Deep.QuietTactic
import Derived.BigQuiet
import Derived.Deep.RegionLaw
import Derived.Lib.SmallJoins
import Derived.Laws.AppendOwnNone
import Derived.OneCell
import Derived.Test.YthdjfmndakeaiaaGreatMemb
import Derived.Test.YthdjfmndakeaiaaGreatChZa
import Derived.Test.YthdjfmndakeaiaaGreatLike
import Derived.ScopeJumps
import Derived.WalkMore
import Derived.Test.YthdjfmndakeaiaaGreatLaceD
namespace Go.Proofs.YthdjfmndakeaiaaGreat
open Go.RowKit
set_option maxRecDepth 100000
set_option linter.unusedVariables false
namespace Fw
open Kn (K okK)
open Bit (bit withB)
open Lc (at' RdK WordsOk laceB setB handsN roundS)
open Ak (onlyF)
open Sl (sealS sealN sealsB)
open Ch (leadK firmN sealAt)

/-- those of the last round that seal k -/
theorem only_seal {L : List K} (hlc : laceB L = true) {s : Int} (h0 : 0 ≤ s) (h1 : s < 1152921504606846976) {k : Nat} (hk : k < L.length) (R : Int) :
    onlyF (fun a => sealsB L a (k : Int)) (Memb.memI (roundS L s R)) = roundS L (sealAt L s k) R := by
  have h60 := ((Lc.lace_iff L).1 hlc).1
  have hR := Lc.round_bd L s R h60
  have hR2 := Lc.round_bd L (sealAt L s k) R h60
  have hF := Ak.onlyF_bits (fun a => sealsB L a (k : Int)) (Memb.memI (roundS L s R)) (fun _ h => Ak.mem_memI h)
  have hN := Sl.sealS_bd L k L.length h60
  refine Lc.eq_of_bits _ _ hF.1.1 hR2.1 fun j => ?_
  rw [Bool.eq_iff_iff, hF.2 j, Ak.mem_bit hR.1 hR.2.1, Ag.bit_round L s R h60, Ag.bit_round L (sealAt L s k) R h60]
  have hb : bit (sealAt L s k) j = (bit s j && (decide (j < L.length) && sealN L j k)) := by
    unfold Ch.sealAt
    rw [Sl.bit_and s _ h0 h1 hN.1 hN.2, Sl.bit_sealS L k L.length h60]
  rw [hb]
  have hi : Sg.isB L (k : Int) = true := by rw [Db.isB_lace hlc]; simp; omega
  have hj : j < L.length → Sg.isB L (j : Int) = true := fun q => by rw [Db.isB_lace hlc]; simp; omega
  unfold Sl.sealsB
  rw [hi]
  simp only [Int.toNat_natCast, Bool.and_eq_true, decide_eq_true_eq, Bool.true_and]
  constructor
  · rintro ⟨⟨p1, p2, p3⟩, p4, p5⟩
    exact ⟨p1, ⟨p2, p1, p5⟩, p3⟩
  · rintro ⟨p1, ⟨p2, _, p5⟩, p3⟩
    exact ⟨⟨p1, p2, p3⟩, hj p1, p5⟩

/-- whose turn each wave is, as the program hands it on -/
def by7 (C : List Int) : Value := .agg #[.int .i64 (Ch.leadI C 0), .int .i64 (Ch.leadI C 1), .int .i64 (Ch.leadI C 2), .int .i64 (Ch.leadI C 3), .int .i64 (Ch.leadI C 4), .int .i64 (Ch.leadI C 5), .int .i64 (Ch.leadI C 6)]
def by7c (C : List Int) : Array Value := #[.int .i64 (Ch.leadI C 0), .int .i64 (Ch.leadI C 1), .int .i64 (Ch.leadI C 2), .int .i64 (Ch.leadI C 3), .int .i64 (Ch.leadI C 4), .int .i64 (Ch.leadI C 5), .int .i64 (Ch.leadI C 6)]

/-- the leads of the program, over coins -/
theorem leads7 (g off cap : Nat) (L : List K) (C : List Int) (k : Int) (w : World) (hlc : laceB L = true) (hc : Rm.coinsB C = true) (hg : g < w.heap.size) (hr : RdK w (some ⟨g, off, none⟩) L) :
    Calls Tryz.prog 66 #[.slice (some ⟨g, off, none⟩) L.length cap, .agg #[.int .i64 (Ch.leadI C 0), .int .i64 (Ch.leadI C 1), .int .i64 (Ch.leadI C 2), .int .i64 (Ch.leadI C 3), .int .i64 (Ch.leadI C 4), .int .i64 (Ch.leadI C 5), .int .i64 (Ch.leadI C 6)], .int .i64 k] w fun e w' => e = .returned (.bool (Ch.leadsB L C k)) ∧ Below w.heap.size w w' := by
  have := Ch.leads g off cap L (fun i => Ch.leadI C (i : Int)) k w hlc hg hr
  rw [Ch.ledB_leads hlc hc _ (fun _ _ => rfl) k] at this
  exact this

/-- firm, for any number -/
def firmK (L : List K) (C : List Int) (s k : Int) : Bool := (decide (0 ≤ k) && decide (k < (L.length : Int))) && firmN L C s k.toNat

theorem cell7 (w : World) (C : List Int) (t : TypeId) (b : Nat) (hb : w.heap.size = b) : Below w.heap.size w (w.alloc (.cells #[.int .i64 (Ch.leadI C 0), .int .i64 (Ch.leadI C 1), .int .i64 (Ch.leadI C 2), .int .i64 (Ch.leadI C 3), .int .i64 (Ch.leadI C 4), .int .i64 (Ch.leadI C 5), .int .i64 (Ch.leadI C 6)] t)) ∧ Db.RowI (w.alloc (.cells #[.int .i64 (Ch.leadI C 0), .int .i64 (Ch.leadI C 1), .int .i64 (Ch.leadI C 2), .int .i64 (Ch.leadI C 3), .int .i64 (Ch.leadI C 4), .int .i64 (Ch.leadI C 5), .int .i64 (Ch.leadI C 6)] t)) b 7 (fun i => Ch.leadI C (i : Int)) := by
  subst hb
  exact ⟨(Below.refl _ _).alloc (Nat.le_refl _) _, Ch.rowI_seven w t (fun i => Ch.leadI C (i : Int))⟩

theorem inL_bits {L : List K} (h60 : L.length ≤ 60) {s : Int} (h0 : 0 ≤ s) (hd : s / 2 ^ L.length = 0) (k : Int) (hk : ¬ (0 ≤ k ∧ k < (L.length : Int))) : (Base.okB s && (Base.inB k && bit s k.toNat)) = false := by
  by_cases hk0 : 0 ≤ k
  · have hb : bit s k.toNat = false := Lc.bit_hi s _ h0 hd _ (by omega)
    rw [hb]; simp
  · have : Base.inB k = false := by
      cases hb : Base.inB k
      · rfl
      · exact absurd ((Base.inB_iff k).1 hb).1 hk0
    rw [this]; simp

end Fw
end Go.Proofs.YthdjfmndakeaiaaGreat

namespace Go.Proofs.YthdjfmndakeaiaaGreat
open Go.RowKit
set_option maxRecDepth 100000
namespace Hp
theorem wrap_ok (ts : Array TypeId) (t : TypeId) (a : Addr) (x y : String) : Builtin.ssaWrapNilChk_ ts t #[.pointer (some a), strVal x, strVal y] = pure (.pointer (some a)) := rfl
theorem findLess : (Array.find? (fun x : Method => x.name == "Less") Tryz.t73.methods).map (fun x => (x.func, x.path.toList)) = some (some (145, false), []) := by kernel_rfl
theorem mLess {hp : Nat} {W : World} {v : Value} (h : W.cell? ⟨hp, 0, none⟩ = some v) (f : Nat) : Sem.run Tryz.prog (method (f + 1) 73 (.pointer (some ⟨hp, 0, none⟩)) "Less") W = .ok (145, v) W := by
  have e := findLess
  cases hx : Array.find? (fun x : Method => x.name == "Less") Tryz.t73.methods with
  | none => rw [hx] at e; cases e
  | some x =>
    obtain ⟨a, b, c, d⟩ := x
    rw [hx] at e
    simp at e
    obtain ⟨rfl, rfl⟩ := e
    unfold method
    simp [go_sem, h, hx, follow, receiverAt, Place.get, wrap_ok]
theorem findSwap : (Array.find? (fun x : Method => x.name == "Swap") Tryz.t73.methods).map (fun x => (x.func, x.path.toList)) = some (some (148, false), []) := by kernel_rfl
theorem mSwap {hp : Nat} {W : World} {v : Value} (h : W.cell? ⟨hp, 0, none⟩ = some v) (f : Nat) : Sem.run Tryz.prog (method (f + 1) 73 (.pointer (some ⟨hp, 0, none⟩)) "Swap") W = .ok (148, v) W := by
  have e := findSwap
  cases hx : Array.find? (fun x : Method => x.name == "Swap") Tryz.t73.methods with
  | none => rw [hx] at e; cases e
  | some x =>
    obtain ⟨a, b, c, d⟩ := x
    rw [hx] at e
    simp at e
    obtain ⟨rfl, rfl⟩ := e
    unfold method
    simp [go_sem, h, hx, follow, receiverAt, Place.get, wrap_ok]
theorem findLen : (Array.find? (fun x : Method => x.name == "Len") Tryz.t73.methods).map (fun x => (x.func, x.path.toList)) = some (some (46, false), []) := by kernel_rfl
theorem mLen {hp : Nat} {W : World} {v : Value} (h : W.cell? ⟨hp, 0, none⟩ = some v) (f : Nat) : Sem.run Tryz.prog (method (f + 1) 73 (.pointer (some ⟨hp, 0, none⟩)) "Len") W = .ok (46, v) W := by
  have e := findLen
  cases hx : Array.find? (fun x : Method => x.name == "Len") Tryz.t73.methods with
  | none => rw [hx] at e; cases e
  | some x =>
    obtain ⟨a, b, c, d⟩ := x
    rw [hx] at e
    simp at e
    obtain ⟨rfl, rfl⟩ := e
    unfold method
    simp [go_sem, h, hx, follow, receiverAt, Place.get, wrap_ok]
end Hp
end Go.Proofs.YthdjfmndakeaiaaGreat

namespace Go.Proofs.YthdjfmndakeaiaaGreat
open Go.RowKit
set_option maxRecDepth 100000
set_option linter.unusedVariables false
namespace Hp

theorem up_enough {α : Type} (lt : α → α → Bool) : ∀ (f g : Nat) (D : Nat → α) (j : Nat), j ≤ f → j ≤ g → up lt (f + 1) D j = up lt (g + 1) D j := by
  intro f
  induction f with
  | zero =>
    intro g D j h _
    obtain rfl : j = 0 := by omega
    rfl
  | succ f ih =>
    intro g D j h hg
    by_cases h1 : (j - 1) / 2 = j
    · unfold up; rw [if_pos h1, if_pos h1]
    · cases g with
      | zero => omega
      | succ g =>
        unfold up
        rw [if_neg h1, if_neg h1, ih g _ _ (by omega) (by omega)]
/-- up, as far as it goes -/
def upT {α : Type} (lt : α → α → Bool) (D : Nat → α) (j : Nat) : Nat → α := up lt (j + 1) D j
theorem upT_top {α : Type} (lt : α → α → Bool) (D : Nat → α) (j : Nat) (h : (j - 1) / 2 = j) : upT lt D j = D := by unfold upT up; rw [if_pos h]
theorem upT_stay {α : Type} (lt : α → α → Bool) (D : Nat → α) (j : Nat) (h : lt (D j) (D ((j - 1) / 2)) = false) : upT lt D j = D := by unfold upT up; rw [h]; simp
theorem upT_go {α : Type} (lt : α → α → Bool) (D : Nat → α) (j : Nat) (h : (j - 1) / 2 ≠ j) (h2 : lt (D j) (D ((j - 1) / 2)) = true) : upT lt D j = upT lt (swap D ((j - 1) / 2) j) ((j - 1) / 2) := by
  unfold upT
  cases j with
  | zero => exact absurd rfl h
  | succ j =>
    rw [up, if_neg h, if_pos h2]
    exact up_enough lt j _ _ _ (by omega) (Nat.le_refl _)
theorem down_enough {α : Type} (lt : α → α → Bool) (n : Nat) : ∀ (f g : Nat) (D : Nat → α) (i : Nat), n ≤ f + i → n ≤ g + i → down lt n (f + 1) D i = down lt n (g + 1) D i := by
  intro f
  induction f with
  | zero =>
    intro g D i h _
    unfold down
    rw [if_neg (by omega), if_neg (by omega)]
  | succ f ih =>
    intro g D i h hg
    by_cases h1 : 2 * i + 1 < n
    · obtain ⟨_, _, ki⟩ := kid_bd lt n D i h1
      cases g with
      | zero => omega
      | succ g =>
        unfold down
        rw [if_pos h1, if_pos h1, ih g _ _ (by omega) (by omega)]
    · unfold down
      rw [if_neg h1, if_neg h1]
/-- down, as far as it goes -/
def downT {α : Type} (lt : α → α → Bool) (n : Nat) (D : Nat → α) (i : Nat) : Nat → α := down lt n (n + 1) D i
theorem downT_end {α : Type} (lt : α → α → Bool) (n : Nat) (D : Nat → α) (i : Nat) (h : ¬ 2 * i + 1 < n) : downT lt n D i = D := by unfold downT down; rw [if_neg h]
theorem downT_stay {α : Type} (lt : α → α → Bool) (n : Nat) (D : Nat → α) (i : Nat) (h2 : lt (D (kid lt n D i)) (D i) = false) : downT lt n D i = D := by unfold downT down; rw [h2]; simp
theorem downT_go {α : Type} (lt : α → α → Bool) (n : Nat) (D : Nat → α) (i : Nat) (h : 2 * i + 1 < n) (h2 : lt (D (kid lt n D i)) (D i) = true) : downT lt n D i = downT lt n (swap D i (kid lt n D i)) (kid lt n D i) := by
  obtain ⟨_, _, ki⟩ := kid_bd lt n D i h
  unfold downT
  cases n with
  | zero => omega
  | succ n =>
    rw [down, if_pos h, if_pos h2]
    exact down_enough lt (n + 1) n (n + 1) _ _ (by omega) (by omega)

/-- Less and Swap keep what they should: S says how the heap of n lies -/
structure Keeps {α : Type} (lt : α → α → Bool) (hp n : Nat) (S : World → (Nat → α) → Prop) : Prop where
  less : ∀ (W : World) (D : Nat → α) (i j : Nat), S W D → i < n → j < n → ∃ v : Value, W.cell? ⟨hp, 0, none⟩ = some v ∧ Calls Tryz.prog 145 #[v, .int .i64 i, .int .i64 j] W fun e w' => e = .returned (.bool (lt (D i) (D j))) ∧ S w' D
  swap : ∀ (W : World) (D : Nat → α) (i j : Nat), S W D → i < n → j < n → ∃ v : Value, W.cell? ⟨hp, 0, none⟩ = some v ∧ Calls Tryz.prog 148 #[v, .int .i64 i, .int .i64 j] W fun e w' => e = .returned (.tuple #[]) ∧ S w' (swap D i j)

theorem half_nat (j : Nat) (h : 0 < j) : ((j : Int) - 1) / 2 = (((j - 1) / 2 : Nat) : Int) := by omega

set_option maxHeartbeats 1600000 in
theorem heapUp {α : Type} (lt : α → α → Bool) (hp n : Nat) (S : World → (Nat → α) → Prop) (HK : Keeps lt hp n S) (hn : n ≤ 1048576) (j : Nat) (hj : j < n) (D : Nat → α) (w : World) (h : S w D) :
    Calls Tryz.prog 85 #[.iface 73 (.pointer (some ⟨hp, 0, none⟩)), .int .i64 j] w fun e w' => e = .returned (.tuple #[]) ∧ S w' (upT lt D j) := by
  have HKK : Hid (Keeps lt hp n S) := HK
  have HS : Hid (S w D) := h
  clear h HK
  go_enter Tryz.func85, Tryz.ntmps85
  go_wp2
  go_loopw [1] (fun x wr => ∃ (q : Nat) (E : Nat → α), q ≤ j ∧ x = .int .i64 q ∧ Hid (S wr E) ∧ Hid (upT lt E q = upT lt D j)) (fun x _ => (intOf x).toNat)
  case atStart => exact ⟨j, D, Nat.le_refl _, rfl, HS, rfl⟩
  case round =>
    obtain ⟨q, E, hq, rfl, HE, HU⟩ := hrel
    clear HS
    by_cases h0 : q = 0
    · subst h0
      have HT : Hid (upT lt E 0 = E) := upT_top lt E 0 rfl
      go_wp2
      go_end0
      exact ⟨rfl, by rw [← HU.out, HT.out]; exact HE.out⟩
    · obtain ⟨p, hp2⟩ : ∃ p, p = (q - 1) / 2 := ⟨_, rfl⟩
      have hpq : ((q : Int) - 1) / 2 = (p : Int) := by omega
      have hwr : IntKind.i64.wrap ((q : Int) - 1) = (q : Int) - 1 := by rw [IntKind.wrap_i64]; omega
      have hne : ((p : Int) == (q : Int)) = false := by rw [Bool.eq_false_iff]; intro h; rw [beq_iff_eq] at h; omega
      have hlt : p < q := by omega
      have HL : Hid (∀ (W : World), S W E → ∃ v : Value, W.cell? ⟨hp, 0, none⟩ = some v ∧ Calls Tryz.prog 145 #[v, .int .i64 q, .int .i64 p] W fun e w' => e = .returned (.bool (lt (E q) (E p))) ∧ S w' E) := fun W hW => HKK.out.less W E q p hW (by omega) (by omega)
      have HW : Hid (∀ (W : World), S W E → ∃ v : Value, W.cell? ⟨hp, 0, none⟩ = some v ∧ Calls Tryz.prog 148 #[v, .int .i64 p, .int .i64 q] W fun e w' => e = .returned (.tuple #[]) ∧ S w' (swap E p q)) := fun W hW => HKK.out.swap W E p q hW (by omega) (by omega)
      have HST : Hid (lt (E q) (E p) = false → upT lt E q = E) := fun h => upT_stay lt E q (by rw [← hp2]; exact h)
      have HGO : Hid (lt (E q) (E p) = true → upT lt E q = upT lt (swap E p q) p) := fun h => by
        have := upT_go lt E q (by omega) (by rw [← hp2]; exact h)
        rw [← hp2] at this
        exact this
      clear HKK hp2
      cases hb : lt (E q) (E p)
      · have HT : Hid (upT lt E q = E) := HST.out hb
        rw [hb] at HL
        clear HST HGO hb HW
        obtain ⟨v1, cv1, hC1⟩ := HL.out _ HE.out
        go_wp2_with fail
        rw [hpq]
        rw [mLess cv1 _]
        go_wp2_with fail
        refine hC1.mono ?_
        rintro e W1 ⟨rfl, hS1⟩
        go_wp2
        go_end0
        exact ⟨rfl, by rw [← HU.out, HT.out]; exact hS1⟩
      · have HT : Hid (upT lt (swap E p q) p = upT lt D j) := (HGO.out hb).symm.trans HU.out
        rw [hb] at HL
        clear HST HGO hb HU
        obtain ⟨v2, cv2, hC2⟩ := HL.out _ HE.out
        go_wp2_with fail
        rw [hpq]
        rw [mLess cv2 _]
        go_wp2_with fail
        refine hC2.mono ?_
        rintro e W1 ⟨rfl, hS1⟩
        obtain ⟨v3, cv3, hC3⟩ := HW.out _ hS1
        go_wp2_with fail
        rw [mSwap cv3 _]
        go_wp2_with fail
        refine hC3.mono ?_
        rintro e W2 ⟨rfl, hS2⟩
        go_wp2
        go_roundw
        case rel => exact ⟨p, _, by omega, rfl, hS2, HT⟩
        case measure => simp [intOf]; omega

/-- how the way down ends -/
def DownPost {α : Type} (S : World → (Nat → α) → Prop) (E : Nat → α) (e : Ending) (w' : World) : Prop := (∃ b : Bool, e = .returned (.bool b)) ∧ S w' E

set_option maxHeartbeats 1600000 in
theorem heapDown {α : Type} (lt : α → α → Bool) (hp n m : Nat) (S : World → (Nat → α) → Prop) (HK : Keeps lt hp m S) (hnm : n ≤ m) (hn : m ≤ 1048576) (i : Nat) (hi : i ≤ n) (D : Nat → α) (w : World) (h : S w D) :
    Calls Tryz.prog 87 #[.iface 73 (.pointer (some ⟨hp, 0, none⟩)), .int .i64 i, .int .i64 n] w (DownPost S (downT lt n D i)) := by
  have HKK : Hid (Keeps lt hp m S) := HK
  have HS : Hid (S w D) := h
  clear h HK
  go_enter Tryz.func87, Tryz.ntmps87
  go_wp2
  go_loopw [7] (fun x wr => ∃ (q : Nat) (E : Nat → α), i ≤ q ∧ q ≤ n ∧ x = .int .i64 q ∧ Hid (S wr E) ∧ Hid (downT lt n E q = downT lt n D i)) (fun x _ => n - (intOf x).toNat)
  case atStart => exact ⟨i, D, Nat.le_refl _, hi, rfl, HS, rfl⟩
  case round =>
    obtain ⟨q, E, hq, hqn, rfl, HE, HU⟩ := hrel
    clear HS
    have hw1 : IntKind.i64.wrap (2 * (q : Int)) = 2 * (q : Int) := by rw [IntKind.wrap_i64]; omega
    have hw2 : IntKind.i64.wrap (2 * (q : Int) + 1) = 2 * (q : Int) + 1 := by rw [IntKind.wrap_i64]; omega
    have hw3 : IntKind.i64.wrap (2 * (q : Int) + 1 + 1) = 2 * (q : Int) + 1 + 1 := by rw [IntKind.wrap_i64]; omega
    have hn0 : ¬ 2 * (q : Int) + 1 < 0 := by omega
    by_cases h1 : 2 * q + 1 < n
    · have h1' : ¬ (n : Int) ≤ 2 * (q : Int) + 1 := by omega
      obtain ⟨kn, kp, ki⟩ := kid_bd lt n E q h1
      have HKD : Hid (kid lt n E q = if 2 * q + 2 < n ∧ lt (E (2 * q + 2)) (E (2 * q + 1)) = true then 2 * q + 2 else 2 * q + 1) := rfl
      have HST : Hid (lt (E (kid lt n E q)) (E q) = false → downT lt n E q = E) := downT_stay lt n E q
      have HGO : Hid (lt (E (kid lt n E q)) (E q) = true → downT lt n E q = downT lt n (swap E q (kid lt n E q)) (kid lt n E q)) := downT_go lt n E q h1
      have hc1 : ((2 * q + 1 : Nat) : Int) = 2 * (q : Int) + 1 := by omega
      have hc2 : ((2 * q + 2 : Nat) : Int) = 2 * (q : Int) + 1 + 1 := by omega
      have HL1 : Hid (2 * q + 2 < n → ∀ (W : World), S W E → ∃ v : Value, W.cell? ⟨hp, 0, none⟩ = some v ∧ Calls Tryz.prog 145 #[v, .int .i64 (2 * (q : Int) + 1 + 1), .int .i64 (2 * (q : Int) + 1)] W fun e w' => e = .returned (.bool (lt (E (2 * q + 2)) (E (2 * q + 1)))) ∧ S w' E) := fun hh W hW => by
        have := HKK.out.less W E (2 * q + 2) (2 * q + 1) hW (by omega) (by omega)
        rw [hc1, hc2] at this
        exact this
      have HL2 : Hid (∀ (W : World), S W E → ∃ v : Value, W.cell? ⟨hp, 0, none⟩ = some v ∧ Calls Tryz.prog 145 #[v, .int .i64 (kid lt n E q : Nat), .int .i64 q] W fun e w' => e = .returned (.bool (lt (E (kid lt n E q)) (E q))) ∧ S w' E) := fun W hW => HKK.out.less W E _ q hW (by omega) (by omega)
      have HW2 : Hid (∀ (W : World), S W E → ∃ v : Value, W.cell? ⟨hp, 0, none⟩ = some v ∧ Calls Tryz.prog 148 #[v, .int .i64 q, .int .i64 (kid lt n E q : Nat)] W fun e w' => e = .returned (.tuple #[]) ∧ S w' (swap E q (kid lt n E q))) := fun W hW => HKK.out.swap W E q _ hW (by omega) (by omega)
      generalize kid lt n E q = kd at kn kp ki HKD HST HGO HL2 HW2
      clear HKK h1
      by_cases hs : 2 * q + 2 < n
      · have hs' : 2 * (q : Int) + 1 + 1 < (n : Int) := by omega
        have HL3 := HL1.out hs
        have HL4 : Hid _ := HL3
        clear HL1 HL3
        cases hb : lt (E (2 * q + 2)) (E (2 * q + 1))
        · obtain rfl : kd = 2 * q + 1 := by
            have := HKD.out
            rw [if_neg (by rw [hb]; simp)] at this
            exact this
          rw [hb] at HL4
          rw [hc1] at HL2 HW2
          clear HKD hb
          cases hd : lt (E (2 * q + 1)) (E q)
          · have HT : Hid (downT lt n E q = E) := HST.out hd
            rw [hd] at HL2
            clear HST HGO hd HW2
            obtain ⟨v4, cv4, hC4⟩ := HL4.out _ HE.out
            go_wp2_with fail
            rw [mLess cv4 _]
            go_wp2_with fail
            refine hC4.mono ?_
            rintro e W1 ⟨rfl, hS1⟩
            obtain ⟨v5, cv5, hC5⟩ := HL2.out _ hS1
            go_wp2_with fail
            rw [mLess cv5 _]
            go_wp2_with fail
            refine hC5.mono ?_
            rintro e W2 ⟨rfl, hS2⟩
            go_wp2
            go_ret
            exact ⟨⟨_, rfl⟩, by rw [← HU.out, HT.out]; exact hS2⟩
          · have HT : Hid (downT lt n (swap E q (2 * q + 1)) (2 * q + 1) = downT lt n D i) := (HGO.out hd).symm.trans HU.out
            rw [hd] at HL2
            clear HST HGO hd HU
            obtain ⟨v6, cv6, hC6⟩ := HL4.out _ HE.out
            go_wp2_with fail
            rw [mLess cv6 _]
            go_wp2_with fail
            refine hC6.mono ?_
            rintro e W1 ⟨rfl, hS1⟩
            obtain ⟨v7, cv7, hC7⟩ := HL2.out _ hS1
            go_wp2_with fail
            rw [mLess cv7 _]
            go_wp2_with fail
            refine hC7.mono ?_
            rintro e W2 ⟨rfl, hS2⟩
            obtain ⟨v8, cv8, hC8⟩ := HW2.out _ hS2
            go_wp2_with fail
            rw [mSwap cv8 _]
            go_wp2_with fail
            refine hC8.mono ?_
            rintro e W3 ⟨rfl, hS3⟩
            go_wp2
            go_roundw
            case rel => exact ⟨2 * q + 1, _, by omega, by omega, by rw [hc1], hS3, HT⟩
            case measure => simp [intOf]; omega
        · obtain rfl : kd = 2 * q + 2 := by
            have := HKD.out
            rw [if_pos ⟨hs, hb⟩] at this
            exact this
          rw [hb] at HL4
          rw [hc2] at HL2 HW2
          clear HKD hb
          cases hd : lt (E (2 * q + 2)) (E q)
          · have HT : Hid (downT lt n E q = E) := HST.out hd
            rw [hd] at HL2
            clear HST HGO hd HW2
            obtain ⟨v9, cv9, hC9⟩ := HL4.out _ HE.out
            go_wp2_with fail
            rw [mLess cv9 _]
            go_wp2_with fail
            refine hC9.mono ?_
            rintro e W1 ⟨rfl, hS1⟩
            obtain ⟨v10, cv10, hC10⟩ := HL2.out _ hS1
            go_wp2_with fail
            rw [mLess cv10 _]
            go_wp2_with fail
            refine hC10.mono ?_
            rintro e W2 ⟨rfl, hS2⟩
            go_wp2
            go_ret
            exact ⟨⟨_, rfl⟩, by rw [← HU.out, HT.out]; exact hS2⟩
          · have HT : Hid (downT lt n (swap E q (2 * q + 2)) (2 * q + 2) = downT lt n D i) := (HGO.out hd).symm.trans HU.out
            rw [hd] at HL2
            clear HST HGO hd HU
            obtain ⟨v11, cv11, hC11⟩ := HL4.out _ HE.out
            go_wp2_with fail
            rw [mLess cv11 _]
            go_wp2_with fail
            refine hC11.mono ?_
            rintro e W1 ⟨rfl, hS1⟩
            obtain ⟨v12, cv12, hC12⟩ := HL2.out _ hS1
            go_wp2_with fail
            rw [mLess cv12 _]
            go_wp2_with fail
            refine hC12.mono ?_
            rintro e W2 ⟨rfl, hS2⟩
            obtain ⟨v13, cv13, hC13⟩ := HW2.out _ hS2
            go_wp2_with fail
            rw [mSwap cv13 _]
            go_wp2_with fail
            refine hC13.mono ?_
            rintro e W3 ⟨rfl, hS3⟩
            go_wp2
            go_roundw
            case rel => exact ⟨2 * q + 2, _, by omega, by omega, by rw [hc2], hS3, HT⟩
            case measure => simp [intOf]; omega
      · have hs' : ¬ 2 * (q : Int) + 1 + 1 < (n : Int) := by omega
        obtain rfl : kd = 2 * q + 1 := by
          have := HKD.out
          rw [if_neg (by omega)] at this
          exact this
        rw [hc1] at HL2 HW2
        clear HKD HL1
        cases hd : lt (E (2 * q + 1)) (E q)
        · have HT : Hid (downT lt n E q = E) := HST.out hd
          rw [hd] at HL2
          clear HST HGO hd HW2
          obtain ⟨v14, cv14, hC14⟩ := HL2.out _ HE.out
          go_wp2_with fail
          rw [mLess cv14 _]
          go_wp2_with fail
          refine hC14.mono ?_
          rintro e W2 ⟨rfl, hS2⟩
          go_wp2
          go_ret
          exact ⟨⟨_, rfl⟩, by rw [← HU.out, HT.out]; exact hS2⟩
        · have HT : Hid (downT lt n (swap E q (2 * q + 1)) (2 * q + 1) = downT lt n D i) := (HGO.out hd).symm.trans HU.out
          rw [hd] at HL2
          clear HST HGO hd HU
          obtain ⟨v15, cv15, hC15⟩ := HL2.out _ HE.out
          go_wp2_with fail
          rw [mLess cv15 _]
          go_wp2_with fail
          refine hC15.mono ?_
          rintro e W2 ⟨rfl, hS2⟩
          obtain ⟨v16, cv16, hC16⟩ := HW2.out _ hS2
          go_wp2_with fail
          rw [mSwap cv16 _]
          go_wp2_with fail
          refine hC16.mono ?_
          rintro e W3 ⟨rfl, hS3⟩
          go_wp2
          go_roundw
          case rel => exact ⟨2 * q + 1, _, by omega, by omega, by rw [hc1], hS3, HT⟩
          case measure => simp [intOf]; omega
    · have HT : Hid (downT lt n E q = E) := downT_end lt n E q h1
      have h1' : (n : Int) ≤ 2 * (q : Int) + 1 := by omega
      go_wp2
      go_ret
      exact ⟨⟨_, rfl⟩, by rw [← HU.out, HT.out]; exact HE.out⟩

end Hp
end Go.Proofs.YthdjfmndakeaiaaGreat

namespace Go.Proofs.YthdjfmndakeaiaaGreat
open Go.RowKit
set_option maxRecDepth 100000
set_option linter.unusedVariables false
namespace Hp

/-- three methods keep what they should: S n says how the heap of n lies, bx how one is boxed -/
structure Heaps {α : Type} (lt : α → α → Bool) (hp top : Nat) (S : Nat → World → (Nat → α) → Prop) : Prop where
  keep : ∀ n, n ≤ top → Keeps lt hp n (S n)
  len : ∀ (n : Nat) (W : World) (D : Nat → α), n ≤ top → S n W D → ∃ v : Value, W.cell? ⟨hp, 0, none⟩ = some v ∧ Calls Tryz.prog 46 #[v] W fun e w' => e = .returned (.int .i64 n) ∧ S n w' D

/-- Push and Pop keep what they should -/
def Pushes {α : Type} (hp top : Nat) (S : Nat → World → (Nat → α) → Prop) (bx : α → Value) : Prop := ∀ (n : Nat) (W : World) (D : Nat → α) (x : α), n + 1 ≤ top → S n W D → Calls Tryz.prog 147 #[.pointer (some ⟨hp, 0, none⟩), bx x] W fun e w' => e = .returned (.tuple #[]) ∧ S (n + 1) w' (fun k => if k = n then x else D k)
def Pops {α : Type} (hp top : Nat) (S : Nat → World → (Nat → α) → Prop) (bx : α → Value) : Prop := ∀ (n : Nat) (W : World) (D : Nat → α), n + 1 ≤ top → S (n + 1) W D → Calls Tryz.prog 146 #[.pointer (some ⟨hp, 0, none⟩)] W fun e w' => e = .returned (bx (D n)) ∧ S n w' D

/-- put in: at the end, then up -/
def pushT {α : Type} (lt : α → α → Bool) (n : Nat) (D : Nat → α) (x : α) : Nat → α := upT lt (fun k => if k = n then x else D k) n
/-- taken out: the last one to the top, then down -/
def popT {α : Type} (lt : α → α → Bool) (n : Nat) (D : Nat → α) : Nat → α := downT lt n (swap D 0 n) 0

theorem pushT_heap {α : Type} {lt : α → α → Bool} (ho : Ord lt) (n : Nat) (D : Nat → α) (x : α) (h : IsHeap lt n D) : IsHeap lt (n + 1) (pushT lt n D x) := by
  unfold pushT upT
  refine push_heap ho n _ (fun k h0 hk => ?_)
  rw [if_neg (by omega), if_neg (by omega)]
  exact h k h0 hk
theorem pushT_same {α : Type} (lt : α → α → Bool) (n : Nat) (D : Nat → α) (x : α) : Same (n + 1) (fun k => if k = n then x else D k) (pushT lt n D x) := up_same lt (n + 1) _ _ n (by omega)
theorem popT_heap {α : Type} {lt : α → α → Bool} (ho : Ord lt) (n : Nat) (D : Nat → α) (h : IsHeap lt (n + 1) D) : IsHeap lt n (popT lt n D) := pop_heap ho n D h n (Nat.le_refl _)
theorem popT_same {α : Type} (lt : α → α → Bool) (n : Nat) (D : Nat → α) : Same n (swap D 0 n) (popT lt n D) := down_same lt n n (Nat.le_refl _) _ _ _
theorem popT_past {α : Type} (lt : α → α → Bool) (n : Nat) (D : Nat → α) : popT lt n D n = D 0 := (down_past lt n _ _ _ n (Nat.le_refl _)).trans (swap_r D 0 n)
/-- what is left is all but the top -/
theorem popT_left {α : Type} (lt : α → α → Bool) (n : Nat) (D : Nat → α) : (∀ k, k < n → ∃ m, 0 < m ∧ m < n + 1 ∧ D m = popT lt n D k) ∧ (∀ m, 0 < m → m < n + 1 → ∃ k, k < n ∧ popT lt n D k = D m) := by
  constructor
  · intro k hk
    obtain ⟨m, hm, e⟩ := (popT_same lt n D).fro k hk
    by_cases h0 : m = 0
    · subst h0; rw [swap_l] at e; exact ⟨n, by omega, by omega, e⟩
    · rw [swap_o D 0 n m h0 (by omega)] at e; exact ⟨m, by omega, by omega, e⟩
  · intro m h0 hm
    by_cases hmn : m = n
    · obtain ⟨k, hk, e⟩ := (popT_same lt n D).to 0 (by omega)
      rw [swap_l] at e
      exact ⟨k, hk, by rw [e, hmn]⟩
    · obtain ⟨k, hk, e⟩ := (popT_same lt n D).to m (by omega)
      rw [swap_o D 0 n m (by omega) hmn] at e
      exact ⟨k, hk, e⟩
theorem popT_inj {α : Type} (lt : α → α → Bool) (n : Nat) (D : Nat → α) (h : ∀ a b, a < n + 1 → b < n + 1 → D a = D b → a = b) : ∀ a b, a < n → b < n → popT lt n D a = popT lt n D b → a = b := by
  refine (popT_same lt n D).inj ?_
  intro a b ha hb e
  exact (same_swap (n := n + 1) D 0 n (by omega) (by omega)).inj h a b (by omega) (by omega) e

set_option maxHeartbeats 800000 in
theorem heapPush {α : Type} (lt : α → α → Bool) (hp top : Nat) (S : Nat → World → (Nat → α) → Prop) (bx : α → Value) (HH : Heaps lt hp top S) (HPU : Pushes hp top S bx) (htop : top ≤ 1048576) (n : Nat) (hn : n + 1 ≤ top) (D : Nat → α) (x : α) (w : World) (h : S n w D) :
    Calls Tryz.prog 67 #[.iface 73 (.pointer (some ⟨hp, 0, none⟩)), bx x] w fun e w' => e = .returned (.tuple #[]) ∧ S (n + 1) w' (pushT lt n D x) := by
  have HP := HPU n w D x hn h
  have HL : Hid (∀ (W : World) (E : Nat → α), S (n + 1) W E → ∃ v : Value, W.cell? ⟨hp, 0, none⟩ = some v ∧ Calls Tryz.prog 46 #[v] W fun e w' => e = .returned (.int .i64 (n + 1 : Nat)) ∧ S (n + 1) w' E) := fun W E hW => HH.len (n + 1) W E hn hW
  have HU : Hid (∀ (W : World) (E : Nat → α), S (n + 1) W E → Calls Tryz.prog 85 #[.iface 73 (.pointer (some ⟨hp, 0, none⟩)), .int .i64 n] W fun e w' => e = .returned (.tuple #[]) ∧ S (n + 1) w' (upT lt E n)) := fun W E hW => heapUp lt hp (n + 1) (S (n + 1)) (HH.keep (n + 1) hn) (by omega) n (by omega) E W hW
  have hcn : ((n + 1 : Nat) : Int) = (n : Int) + 1 := by omega
  rw [hcn] at HL
  have hws : IntKind.i64.wrap ((n : Int) + 1 - 1) = (n : Int) := by rw [IntKind.wrap_i64]; omega
  have hws2 : (n : Int) + 1 - 1 = (n : Int) := by omega
  generalize bx x = bv at HP ⊢
  clear h HH HPU
  go_enter Tryz.func67, Tryz.ntmps67
  go_wp2_with fail
  refine HP.mono ?_
  rintro e W1 ⟨rfl, hS1⟩
  obtain ⟨v1, cv1, hC1⟩ := HL.out _ _ hS1
  go_wp2_with fail
  rw [mLen cv1 _]
  go_wp2_with fail
  refine hC1.mono ?_
  rintro e W2 ⟨rfl, hS2⟩
  go_wp2_with fail
  try rw [hws]
  try rw [hws2]
  refine (HU.out _ _ hS2).mono ?_
  rintro e W3 ⟨rfl, hS3⟩
  go_wp2
  go_end0
  exact ⟨rfl, hS3⟩

set_option maxHeartbeats 800000 in
theorem heapPop {α : Type} (lt : α → α → Bool) (hp top : Nat) (S : Nat → World → (Nat → α) → Prop) (bx : α → Value) (HH : Heaps lt hp top S) (HPO : Pops hp top S bx) (htop : top ≤ 1048576) (n : Nat) (hn : n + 1 ≤ top) (D : Nat → α) (w : World) (h : S (n + 1) w D) :
    Calls Tryz.prog 70 #[.iface 73 (.pointer (some ⟨hp, 0, none⟩))] w fun e w' => e = .returned (bx (D 0)) ∧ S n w' (popT lt n D) := by
  have HL := HH.len (n + 1) w D hn h
  have HS : Hid (∀ (W : World), S (n + 1) W D → ∃ v : Value, W.cell? ⟨hp, 0, none⟩ = some v ∧ Calls Tryz.prog 148 #[v, .int .i64 0, .int .i64 n] W fun e w' => e = .returned (.tuple #[]) ∧ S (n + 1) w' (swap D 0 n)) := fun W hW => (HH.keep (n + 1) hn).swap W D 0 n hW (by omega) (by omega)
  have HU : Hid (∀ (W : World) (E : Nat → α), S (n + 1) W E → Calls Tryz.prog 87 #[.iface 73 (.pointer (some ⟨hp, 0, none⟩)), .int .i64 0, .int .i64 n] W (DownPost (S (n + 1)) (downT lt n E 0))) := fun W E hW => heapDown lt hp n (n + 1) (S (n + 1)) (HH.keep (n + 1) hn) (by omega) (by omega) 0 (by omega) E W hW
  have HP : Hid (∀ (W : World) (E : Nat → α), S (n + 1) W E → Calls Tryz.prog 146 #[.pointer (some ⟨hp, 0, none⟩)] W fun e w' => e = .returned (bx (E n)) ∧ S n w' E) := fun W E hW => HPO n W E hn hW
  have HV : Hid (popT lt n D n = D 0) := popT_past lt n D
  have hcn : ((n + 1 : Nat) : Int) = (n : Int) + 1 := by omega
  rw [hcn] at HL
  have hws : IntKind.i64.wrap ((n : Int) + 1 - 1) = (n : Int) := by rw [IntKind.wrap_i64]; omega
  have hws2 : (n : Int) + 1 - 1 = (n : Int) := by omega
  clear h HH HPO
  go_enter Tryz.func70, Tryz.ntmps70
  obtain ⟨v0, cv0, hC0⟩ := HL
  go_wp2_with fail
  rw [mLen cv0 _]
  go_wp2_with fail
  refine hC0.mono ?_
  rintro e W1 ⟨rfl, hS1⟩
  obtain ⟨v2, cv2, hC2⟩ := HS.out _ hS1
  go_wp2_with fail
  try rw [hws]
  try rw [hws2]
  rw [mSwap cv2 _]
  go_wp2_with fail
  refine hC2.mono ?_
  rintro e W2 ⟨rfl, hS2⟩
  go_wp2_with fail
  try rw [hws]
  try rw [hws2]
  refine (HU.out _ _ hS2).mono ?_
  rintro e W3 ⟨⟨b, rfl⟩, hS3⟩
  have HPP := HP.out _ _ hS3
  have HV2 : Hid (downT lt n (swap D 0 n) 0 n = D 0) := HV.out
  rw [HV2.out] at HPP
  generalize hbv : bx (D 0) = bv at HPP
  have HBV : Hid (bx (D 0) = bv) := hbv
  clear HV HV2 HP HU HS hbv
  go_wp2_with fail
  refine HPP.mono ?_
  rintro e W4 ⟨rfl, hS4⟩
  go_wp2
  go_ret
  exact ⟨by rw [HBV.out]; rfl, hS4⟩

end Hp
end Go.Proofs.YthdjfmndakeaiaaGreat

namespace Go.Proofs.YthdjfmndakeaiaaGreat
open Go.RowKit
set_option maxRecDepth 100000
set_option linter.unusedVariables false
namespace Fw

theorem drew_add (W : World) (m n : Nat) : (W.drewN m).drewN n = W.drewN (m + n) := by first | rfl | simp

/-- a leader that waits ahead of another one: of a greater round, of the same round the lesser number -/
def ltL (a b : Int × Int) : Bool := if a.2 = b.2 then decide (a.1 < b.1) else decide (b.2 < a.2)

set_option maxHeartbeats 800000 in
theorem less (g cap n : Nat) (D : Nat → Int × Int) (i j : Nat) (hi : i < n) (hj : j < n) (W : World) (h : ∀ k, k < n → W.cell? ⟨g, k * 2, none⟩ = some (.int .i64 (D k).1) ∧ W.cell? ⟨g, k * 2 + 1, none⟩ = some (.int .i64 (D k).2)) :
    Calls Tryz.prog 145 #[.slice (some ⟨g, 0, none⟩) n cap, .int .i64 i, .int .i64 j] W fun e w' => e = .returned (.bool (ltL (D i) (D j))) ∧ ∃ m, w' = W.drewN m := by
  obtain ⟨a0, a1⟩ := h i hi
  obtain ⟨b0, b1⟩ := h j hj
  have HT : Hid (ltL (D i) (D j) = if (D i).2 = (D j).2 then decide ((D i).1 < (D j).1) else decide ((D j).2 < (D i).2)) := rfl
  clear h
  have hii : (i : Int) < (n : Int) := by omega
  have hjj : (j : Int) < (n : Int) := by omega
  generalize D i = x at a0 a1 HT ⊢
  generalize D j = y at b0 b1 HT ⊢
  obtain ⟨xn, xr⟩ := x
  obtain ⟨yn, yr⟩ := y
  dsimp only at a0 a1 b0 b1 HT
  by_cases hr : xr = yr
  · have hrb : (xr == yr) = true := by rw [beq_iff_eq]; exact hr
    have HD : Hid (ltL (xn, xr) (yn, yr) = decide (xn < yn)) := by show _ = _; rw [HT.out, if_pos hr]
    clear HT
    subst hr
    go_enter Tryz.func145, Tryz.ntmps145
    go_wp2_with fail
    go_quiet (fail)
    go_wp2_with fail
    go_quiet (fail)
    go_wp2
    go_ret
    exact ⟨by rw [HD.out]; rfl, _, drew_add _ _ _⟩
  · have hrb : (xr == yr) = false := by rw [Bool.eq_false_iff]; intro q; rw [beq_iff_eq] at q; exact hr q
    have HD : Hid (ltL (xn, xr) (yn, yr) = decide (yr < xr)) := by show _ = _; rw [HT.out, if_neg hr]
    clear HT
    go_enter Tryz.func145, Tryz.ntmps145
    go_wp2_with fail
    go_quiet (fail)
    go_wp2_with fail
    go_quiet (fail)
    go_wp2
    go_ret
    exact ⟨by rw [HD.out]; rfl, _, drew_add _ _ _⟩

def putL (W : World) (g i : Nat) (x : Int × Int) : World := (W.setCell ⟨g, i * 2, none⟩ (.int .i64 x.1)).setCell ⟨g, i * 2 + 1, none⟩ (.int .i64 x.2)

set_option maxHeartbeats 800000 in
theorem swap (g cap n : Nat) (D : Nat → Int × Int) (i j : Nat) (hi : i < n) (hj : j < n) (W : World) (h : ∀ k, k < n → W.cell? ⟨g, k * 2, none⟩ = some (.int .i64 (D k).1) ∧ W.cell? ⟨g, k * 2 + 1, none⟩ = some (.int .i64 (D k).2)) (hf : ∀ k, k < n * 2 → W.frozen? ⟨g, k, none⟩ = false) :
    Calls Tryz.prog 148 #[.slice (some ⟨g, 0, none⟩) n cap, .int .i64 i, .int .i64 j] W fun e w' => e = .returned (.tuple #[]) ∧ ∃ m, w' = (putL (putL W g i (D j)) g j (D i)).drewN m := by
  obtain ⟨a0, a1⟩ := h i hi
  have f0 := hf (i * 2) (by omega)
  have f1 := hf (i * 2 + 1) (by omega)
  have hii : (i : Int) < (n : Int) := by omega
  by_cases hne : i = j
  · subst hne
    clear h hf
    unfold putL
    generalize D i = x at a0 a1 ⊢
    obtain ⟨xn, xr⟩ := x
    dsimp only at a0 a1
    go_enter Tryz.func148, Tryz.ntmps148
    go_wp2_with fail
    go_region
    all_goals (go_wp2)
    all_goals go_end0
    all_goals exact ⟨rfl, 1, rfl⟩
  · obtain ⟨b0, b1⟩ := h j hj
    have f2 := hf (j * 2) (by omega)
    have f3 := hf (j * 2 + 1) (by omega)
    clear h hf
    unfold putL
    have hjj : (j : Int) < (n : Int) := by omega
    have hne' : ¬ j = i := fun e => hne e.symm
    generalize D i = x at a0 a1 ⊢
    generalize D j = y at b0 b1 ⊢
    obtain ⟨xn, xr⟩ := x
    obtain ⟨yn, yr⟩ := y
    dsimp only at a0 a1 b0 b1
    go_enter Tryz.func148, Tryz.ntmps148
    go_wp2_with fail
    go_region
    all_goals (go_wp2)
    all_goals go_end0
    all_goals exact ⟨rfl, 1, rfl⟩

/-! ### the leaders' cells -/
def flatL (D : Nat → Int × Int) (n : Nat) : List Value := (List.range (n * 2)).map fun j => .int .i64 (if j % 2 = 0 then (D (j / 2)).1 else (D (j / 2)).2)
theorem flatL_len (D : Nat → Int × Int) (n : Nat) : (flatL D n).length = n * 2 := by simp [flatL]
theorem flatL_get (D : Nat → Int × Int) (n j : Nat) (h : j < n * 2) : (flatL D n)[j]? = some (.int .i64 (if j % 2 = 0 then (D (j / 2)).1 else (D (j / 2)).2)) := by simp [flatL, h]
theorem flatL_two (D : Nat → Int × Int) (n k : Nat) (h : k < n) : (flatL D n)[k * 2]? = some (.int .i64 (D k).1) ∧ (flatL D n)[k * 2 + 1]? = some (.int .i64 (D k).2) := by
  constructor
  · rw [flatL_get D n _ (by omega), if_pos (by omega), show k * 2 / 2 = k by omega]
  · rw [flatL_get D n _ (by omega), if_neg (by omega), show (k * 2 + 1) / 2 = k by omega]
theorem flatL_ext (D : Nat → Int × Int) (n : Nat) (xs : List Value) (hl : xs.length = n * 2) (h : ∀ k, k < n → xs[k * 2]? = some (.int .i64 (D k).1) ∧ xs[k * 2 + 1]? = some (.int .i64 (D k).2)) : xs = flatL D n := by
  apply List.ext_getElem?
  intro j
  by_cases hj : j < n * 2
  · obtain ⟨h1, h2⟩ := h (j / 2) (by omega)
    obtain ⟨q1, q2⟩ := flatL_two D n (j / 2) (by omega)
    by_cases hm : j % 2 = 0
    · have e : j / 2 * 2 = j := by omega
      rw [e] at h1 q1
      rw [h1, q1]
    · have e : j / 2 * 2 + 1 = j := by omega
      rw [e] at h2 q2
      rw [h2, q2]
  · rw [List.getElem?_eq_none (by omega), List.getElem?_eq_none (by rw [flatL_len]; omega)]
theorem flatL_snoc (D : Nat → Int × Int) (n : Nat) (x : Int × Int) : flatL (fun k => if k = n then x else D k) (n + 1) = flatL D n ++ [.int .i64 x.1, .int .i64 x.2] := by
  symm
  refine flatL_ext _ _ _ (by rw [List.length_append, flatL_len]; simp; omega) (fun k hk => ?_)
  by_cases h : k = n
  · subst h
    rw [List.getElem?_append_right (by rw [flatL_len]; omega), List.getElem?_append_right (by rw [flatL_len]; omega), flatL_len]
    simp
  · obtain ⟨q1, q2⟩ := flatL_two D n k (by omega)
    rw [List.getElem?_append_left (by rw [flatL_len]; omega), List.getElem?_append_left (by rw [flatL_len]; omega), q1, q2, if_neg h]
    exact ⟨rfl, rfl⟩
theorem flatL_less (D : Nat → Int × Int) (n : Nat) : (flatL D (n + 1)).take (n * 2) = flatL D n := by
  refine flatL_ext _ _ _ (by rw [List.length_take, flatL_len]; omega) (fun k hk => ?_)
  obtain ⟨q1, q2⟩ := flatL_two D (n + 1) k (by omega)
  rw [List.getElem?_take, List.getElem?_take, if_pos (by omega), if_pos (by omega)]
  exact ⟨q1, q2⟩

/-- the heap's row: n leaders in block g -/
structure Lead (m0 g cap n : Nat) (W : World) (D : Nat → Int × Int) : Prop where
  own : W.ownsRow m0 78 2 (.slice (some ⟨g, 0, none⟩) n cap) n (flatL D n)
theorem Lead.cells {m0 g cap n : Nat} {W : World} {D : Nat → Int × Int} (h : Lead m0 g cap n W D) : ∀ k, k < n → W.cell? ⟨g, k * 2, none⟩ = some (.int .i64 (D k).1) ∧ W.cell? ⟨g, k * 2 + 1, none⟩ = some (.int .i64 (D k).2) := fun k hk => by
  obtain ⟨q1, q2⟩ := flatL_two D n k hk
  have e1 := World.ownsRow.cells h.own (g := g) rfl _ _ q1
  have e2 := World.ownsRow.cells h.own (g := g) rfl _ _ q2
  constructor
  · rw [WideShapes.add_plain] at e1; simpa using e1
  · rw [WideShapes.add_plain] at e2; simpa using e2
theorem Lead.put {m0 g cap n : Nat} {W : World} {D : Nat → Int × Int} (h : Lead m0 g cap n W D) (i : Nat) (x : Int × Int) : Lead m0 g cap n (putL W g i x) (fun k => if k = i then x else D k) := by
  refine ⟨?_⟩
  obtain ⟨h1, ⟨hv, _⟩ | ⟨g', cap', cur, hv, hb, hg, hc, hm, hs, ht⟩⟩ := h.own
  · cases hv
  · injection hv with ha _ hcc
    injection ha with ha
    injection ha with ha
    subst ha hcc
    have hg1 := Joins.block_setCell (i := i * 2) hg (.int .i64 x.1)
    have hg2 := Joins.block_setCell (i := i * 2 + 1) hg1 (.int .i64 x.2)
    refine ⟨flatL_len _ _, .inr ⟨g, cap, _, rfl, hb, hg2, hc, hm, by simpa using hs, ?_⟩⟩
    refine flatL_ext _ _ _ (by simp; omega) (fun k hk => ?_)
    have q := flatL_two D n k hk
    rw [← ht] at q
    rw [List.getElem?_take, if_pos (show k * 2 < n * 2 by omega), List.getElem?_take, if_pos (show k * 2 + 1 < n * 2 by omega)] at q ⊢
    simp only [Array.getElem?_toList] at q ⊢
    by_cases e : k = i
    · subst e
      have l1 : k * 2 + 1 < cur.size := by omega
      rw [if_pos rfl]
      constructor
      · rw [Array.getElem?_setIfInBounds_ne (by omega), Array.getElem?_setIfInBounds_self_of_lt (by omega)]
      · rw [Array.getElem?_setIfInBounds_self_of_lt (by simpa using l1)]
    · rw [if_neg e]
      constructor
      · rw [Array.getElem?_setIfInBounds_ne (by omega), Array.getElem?_setIfInBounds_ne (by omega)]; exact q.1
      · rw [Array.getElem?_setIfInBounds_ne (by omega), Array.getElem?_setIfInBounds_ne (by omega)]; exact q.2
theorem swap_puts (D : Nat → Int × Int) (i j : Nat) : (fun k => if k = j then D i else if k = i then D j else D k) = Hp.swap D i j := by
  funext k
  unfold Hp.swap
  by_cases h1 : k = i
  · by_cases h2 : k = j
    · rw [if_pos h2, if_pos h1]; rw [← h1, ← h2]
    · rw [if_neg h2, if_pos h1, if_pos h1]
  · by_cases h2 : k = j
    · rw [if_pos h2, if_neg h1, if_pos h2]
    · rw [if_neg h2, if_neg h1, if_neg h1, if_neg h2]

/-- the heap: n leaders wait behind the pointer hp -/
def Wt (m0 r hp n : Nat) (W : World) (D : Nat → Int × Int) : Prop := (m0 ≤ hp ∧ hp ≠ r) ∧ ∃ g cap, W.heap[hp]? = some (.cells #[.slice (some ⟨g, 0, none⟩) n cap] 101 (0, 0)) ∧ Lead m0 g cap n W D ∧ g ≠ r
/-- all below m0 lies as it lay, and block r -/
def Kp (m0 r : Nat) (W W' : World) : Prop := Below m0 W W' ∧ (r < W.heap.size → W'.heap[r]? = W.heap[r]?)
theorem kp_refl (m0 r : Nat) (W : World) : Kp m0 r W W := ⟨Below.refl _ _, fun _ => rfl⟩
theorem kp_drewN (m0 r : Nat) (W : World) (m : Nat) : Kp m0 r W (W.drewN m) := ⟨⟨rfl, rfl, rfl, Nat.le_refl _, fun _ _ => rfl⟩, fun _ => rfl⟩
theorem kp_low {m0 r : Nat} {W W' : World} (h : Below m0 W W') (hr : r < m0) : Kp m0 r W W' := ⟨h, fun _ => h.block r hr⟩

theorem cell_of {W : World} {b : Nat} {v : Value} {t : TypeId} (h : W.heap[b]? = some (.cells #[v] t (0, 0))) : W.cell? ⟨b, 0, none⟩ = some v := by simp [World.cell?, h]
theorem frozen_of {W : World} {b : Nat} {v : Value} {t : TypeId} (h : W.heap[b]? = some (.cells #[v] t (0, 0))) : W.frozen? ⟨b, 0, none⟩ = false := by simp [World.frozen?, h]
theorem lead_ne {m0 hp n g cap : Nat} {W : World} {v : Value} {D : Nat → Int × Int} (h1 : W.heap[hp]? = some (.cells #[v] 101 (0, 0))) (h2 : Lead m0 g cap n W D) : g ≠ hp ∧ m0 ≤ g := by
  obtain ⟨_, ⟨hv, _⟩ | ⟨g', cap', cur, hv, hb, hg, _⟩⟩ := h2.own
  · cases hv
  · injection hv with ha _ _
    injection ha with ha
    injection ha with ha
    subst ha
    refine ⟨fun e => ?_, hb⟩
    rw [e, h1] at hg
    injection hg with hg
    injection hg with _ hg _
    cases hg
end Fw
end Go.Proofs.YthdjfmndakeaiaaGreat

namespace Go.Proofs.YthdjfmndakeaiaaGreat
open Go.RowKit
set_option maxRecDepth 100000
set_option linter.unusedVariables false
namespace Fw

theorem len (a : Option Addr) (cap n : Nat) (W : World) : Calls Tryz.prog 46 #[.slice a n cap] W fun e w' => e = .returned (.int .i64 n) ∧ w' = W := by
  go_enter Tryz.func46, Tryz.ntmps46
  go_wp2
  go_ret
  exact ⟨rfl, rfl⟩

theorem step_own {P : Program} {ops : Array Oper} {o : Oper} {a : Act} {w : World} {K : Act → World → Prop} {Q : Exit → Act → World → Prop} {E : Prop}
    (hg : o.guard = none) (s x : Operand) (t : TypeId) (hop : o.op = Op.call { callee := Callee.builtin Builtin.append, args := #[s, x], argTypes := #[t, t] })
    (base : Nat) (e : TypeId) (i : TypeInfo) (z : Value) (size bytes : Nat) (ht : P.underlying t = some (.slice e)) (hi : P.info? e = some i) (hz : i.zero = some z) (hsize : i.size = size) (hby : i.bytes = bytes) (hzs : z.cells.size = size) (hsz : 0 < size)
    (v : Value) (n : Nat) (xs : List Value) (hs : a.eval s = v) (hown : w.ownsRow base e size v n xs)
    (ad : Addr) (m c : Nat) (news : List Value) (hx : a.eval x = .slice (some ad) m c) (hl : news.length = m * size) (hnews : ∀ j u, news[j]? = some u → w.cell? (ad.add j) = some u) (h1 : ∀ u ∈ news, u.oneCell' = true)
    (h63 : n + m ≤ maxLen) (hbytes : (n + m) * bytes ≤ 140737488355328) (hbase : base ≤ w.heap.size)
    (hK : ∀ v' w', w'.ownsRow base e size v' (n + m) (xs ++ news) → w.grownBy w' v.ownBlock → (v' = .slice none 0 0 ↔ v = .slice none 0 0 ∧ m = 0) → K (a.put o.dst v') w') :
    if Region.wanted o (yielded ops a.tmps) = true then Oper.wp P o a w K Q else E := by
  rw [if_pos (by simp [Region.wanted, hg])]
  exact wp_append_own w s x t hop base e i z size bytes ht hi hz hsize hby hzs hsz v n xs hs hown ad m c news hx hl hnews h1 h63 hbytes hbase hK

theorem infoL : (Tryz.prog.info? 78).map (fun i => (i.zero, i.size, i.bytes)) = some (some (.agg #[.int .i64 0, .int .i64 0]), 2, 16) := by kernel_rfl
theorem new_lead (W : World) (x : Int × Int) (t : TypeId) : ∀ (j : Nat) u, ([.int .i64 x.1, .int .i64 x.2] : List Value)[j]? = some u → (W.alloc (.cells #[.int .i64 x.1, .int .i64 x.2] t)).cell? ((⟨W.heap.size, 0, none⟩ : Addr).add j) = some u := by
  intro j u hj
  match j, hj with
  | 0, hj => simp at hj; subst hj; simp [Addr.add]
  | 1, hj => simp at hj; subst hj; simp [Addr.add]

theorem asL (v : Value) (xT : TypeId) (w : World) : (Instr.typeAssert (.iface 78 v) xT 78 false).run Tryz.prog w = .ok v w := by kernel_rfl

theorem own_succ {W : World} {base : Nat} {e : TypeId} {size : Nat} {v : Value} {k : Nat} {xs : List Value} (h : W.ownsRow base e size v (k + 1) xs) : ∃ g cap, v = .slice (some ⟨g, 0, none⟩) (k + 1) cap := by
  obtain ⟨_, ⟨_, h0⟩ | ⟨g, cap, _, hv, _⟩⟩ := h
  · omega
  · exact ⟨g, cap, hv⟩

/-- the row after one was put in, the new slice laid behind the pointer -/
theorem put_in {m0 r hp g cap n : Nat} {W0 W5 : World} {D : Nat → Int × Int} {x : Int × Int} {v' : Value} (hmp : m0 ≤ hp) (hpr : hp ≠ r) (hgr : g ≠ r) (hr : r < m0 ∨ ∃ cs t fz, t ≠ 78 ∧ W0.heap[r]? = some (.cells cs t fz)) (hh : W0.heap[hp]? = some (.cells #[.slice (some ⟨g, 0, none⟩) n cap] 101 (0, 0))) (hl : Lead m0 g cap n W0 D)
    (hown : W5.ownsRow m0 78 2 v' (n + 1) (flatL D n ++ [.int .i64 x.1, .int .i64 x.2])) (hgrow : W0.grownBy W5 (Value.slice (some ⟨g, 0, none⟩) n cap).ownBlock) :
    (∃ u, W5.cell? ⟨hp, 0, none⟩ = some u) ∧ W5.frozen? ⟨hp, 0, none⟩ = false ∧ Wt m0 r hp (n + 1) (W5.setCell ⟨hp, 0, none⟩ v') (fun k => if k = n then x else D k) ∧ Kp m0 r W0 (W5.setCell ⟨hp, 0, none⟩ v') := by
  obtain ⟨hne, hmg⟩ := lead_ne hh hl
  have hlt : hp < W0.heap.size := (Array.getElem?_eq_some_iff.1 hh).1
  have hk : W5.heap[hp]? = some (.cells #[.slice (some ⟨g, 0, none⟩) n cap] 101 (0, 0)) := by
    rw [hgrow.block hp hlt (by simp [Value.ownBlock]; omega)]; exact hh
  have hkr : r < W0.heap.size → W5.heap[r]? = W0.heap[r]? := fun q => hgrow.block r q (by simp [Value.ownBlock]; omega)
  have hs := one_setCell (u := v') hk
  obtain ⟨h1, ⟨_, h0⟩ | ⟨g', cap', cur, rfl, hb, hg, rest⟩⟩ := hown
  · omega
  have hne' : g' ≠ hp := fun e => by
    rw [e, hk] at hg
    injection hg with hg
    injection hg with _ hg _
    cases hg
  have hne2 : g' ≠ r := fun e => by
    rcases hr with hr | ⟨cs, t, fz, ht, hr⟩
    · omega
    · rw [e, hkr (Array.getElem?_eq_some_iff.1 hr).1, hr] at hg
      injection hg with hg
      injection hg with _ hg _
      exact ht hg
  refine ⟨⟨_, cell_of hk⟩, frozen_of hk, ⟨⟨hmp, hpr⟩, g', cap', hs, ⟨?_⟩, hne2⟩, ?_, ?_⟩
  · rw [flatL_snoc]
    exact ⟨h1, .inr ⟨g', cap', cur, rfl, hb, (Below.heap_setCell W5 ⟨hp, 0, none⟩ _ g' hne').trans hg, rest⟩⟩
  · exact Below.setCell (p := ⟨hp, 0, none⟩) ((Below.refl m0 W0).grown hgrow (by omega) (fun k hk => by simp [Value.ownBlock] at hk; omega)) hmp _
  · exact fun q => (Below.heap_setCell W5 ⟨hp, 0, none⟩ _ r (fun e => hpr e.symm)).trans (hkr q)

set_option maxHeartbeats 1600000 in
theorem push (m0 r hp n : Nat) (D : Nat → Int × Int) (x : Int × Int) (W : World) (hr : r < m0 ∨ ∃ cs t fz, t ≠ 78 ∧ W.heap[r]? = some (.cells cs t fz)) (hn : n + 1 ≤ 1048576) (h : Wt m0 r hp n W D) :
    Calls Tryz.prog 147 #[.pointer (some ⟨hp, 0, none⟩), .iface 78 (.agg #[.int .i64 x.1, .int .i64 x.2])] W fun e w' => e = .returned (.tuple #[]) ∧ Wt m0 r hp (n + 1) w' (fun k => if k = n then x else D k) ∧ Kp m0 r W w' := by
  obtain ⟨⟨hmp, hpr⟩, g, cap, hh, hl, hgr⟩ := h
  have hlt : hp < W.heap.size := (Array.getElem?_eq_some_iff.1 hh).1
  obtain ⟨i0, hi, hz0, hz1, hz2⟩ := info_parts infoL
  have c0 := cell_of hh
  have f0 := frozen_of hh
  have HP : Hid (∀ (V W5 : World) (v' : Value), (∀ b, b < W.heap.size → V.heap[b]? = W.heap[b]?) → V.ownsRow m0 78 2 (.slice (some ⟨g, 0, none⟩) n cap) n (flatL D n) → Below m0 W V → W5.ownsRow m0 78 2 v' (n + 1) (flatL D n ++ [.int .i64 x.1, .int .i64 x.2]) → V.grownBy W5 (Value.slice (some ⟨g, 0, none⟩) n cap).ownBlock →
      (∃ u, W5.cell? ⟨hp, 0, none⟩ = some u) ∧ W5.frozen? ⟨hp, 0, none⟩ = false ∧ Hid (Wt m0 r hp (n + 1) (W5.setCell ⟨hp, 0, none⟩ v') (fun k => if k = n then x else D k)) ∧ Hid (Kp m0 r W (W5.setCell ⟨hp, 0, none⟩ v'))) := by
    intro V W5 v' hV hR hB hown hgrow
    have hr' : r < m0 ∨ ∃ cs t fz, t ≠ 78 ∧ V.heap[r]? = some (.cells cs t fz) := by
      rcases hr with hr | ⟨cs, t, fz, ht, hr⟩
      · exact .inl hr
      · exact .inr ⟨cs, t, fz, ht, (hV r (Array.getElem?_eq_some_iff.1 hr).1).trans hr⟩
    obtain ⟨p1, p2, p3, p4⟩ := put_in hmp hpr hgr hr' ((hV hp hlt).trans hh) ⟨hR⟩ hown hgrow
    exact ⟨p1, p2, p3, hB.trans p4.1, fun q => (p4.2 (Nat.lt_of_lt_of_le q hB.size)).trans (hV r q)⟩
  have HL : Hid (W.ownsRow m0 78 2 (.slice (some ⟨g, 0, none⟩) n cap) n (flatL D n)) := hl.own
  have HH : Hid (hp < W.heap.size ∧ m0 ≤ hp) := ⟨hlt, hmp⟩
  clear hh hl hlt hmp hr
  have hta := asL
  have c1 : (W.alloc (.cells #[.int .i64 x.1, .int .i64 x.2] 78)).cell? ⟨hp, 0, none⟩ = some (.slice (some ⟨g, 0, none⟩) n cap) := (World.cell?_of_block (w := W) (a := ⟨hp, 0, none⟩) (Below.heap_alloc W _ hp HH.out.1)).trans c0
  go_enter Tryz.func147, Tryz.ntmps147
  go_wp2_with fail
  go_region_law (
    (refine step_own rfl (.tmp 7) (.tmp 10) 101 rfl m0 78 i0 (.agg #[.int .i64 0, .int .i64 0]) 2 16 Tryz.underlying101 hi hz0 hz1 hz2 rfl (by decide) (.slice (some ⟨g, 0, none⟩) n cap) n (flatL D n) (by simp [Act.eval]) (by first | exact (HL.out.alloc _) | exact (HL.out.alloc _).drew | exact HL.out.drew.alloc _) ⟨W.heap.size, 0, none⟩ 1 1 [.int .i64 x.1, .int .i64 x.2] (by simp [Act.eval]) rfl (by first | exact new_lead W x _ | exact new_lead W.drew x _) (by intro u hu; simp at hu; rcases hu with rfl | rfl <;> rfl) (by unfold maxLen; omega) (by omega) (by have := HH.out; simp; omega) ?_
     intro v' w5 hown5 hgrow5 hnil5
     obtain ⟨g5, cap5, rfl⟩ := own_succ hown5
     have HQ := HP.out _ _ _ (by first | (exact Below.heap_alloc W _) | (exact Below.heap_alloc W.drew _)) (by first | exact (HL.out.alloc _) | exact (HL.out.alloc _).drew | exact HL.out.drew.alloc _) (by first | exact ((Below.refl _ W).alloc (by have := HH.out; omega) _).drew | exact (Below.refl _ W).drew.alloc (by have := HH.out; simp; omega) _) hown5 hgrow5
     obtain ⟨qu, qc⟩ := HQ.1
     have q2 := HQ.2.1
     have Q3 := HQ.2.2.1
     have Q4 := HQ.2.2.2
     clear hown5 hgrow5 hnil5 HQ))
  all_goals (go_wp2)
  all_goals go_end0
  all_goals exact ⟨rfl, Q3.out, Q4.out⟩

theorem wt_alloc {m0 r hp n : Nat} {W : World} {D : Nat → Int × Int} (h : Wt m0 r hp n W D) (o : Obj) : Wt m0 r hp n (W.alloc o) D := by
  obtain ⟨h0, g, cap, hh, hl, hr⟩ := h
  exact ⟨h0, g, cap, (Below.heap_alloc W o hp (Array.getElem?_eq_some_iff.1 hh).1).trans hh, ⟨hl.own.alloc o⟩, hr⟩
theorem wt_lt {m0 r hp n : Nat} {W : World} {D : Nat → Int × Int} (h : Wt m0 r hp n W D) : m0 ≤ hp ∧ hp < W.heap.size := by
  obtain ⟨⟨h0, _⟩, g, cap, hh, hl, _⟩ := h
  exact ⟨h0, (Array.getElem?_eq_some_iff.1 hh).1⟩

/-- one taken off the end -/
theorem take_out {m0 r hp g cap n : Nat} {W0 V : World} {D : Nat → Int × Int} (hmp : m0 ≤ hp) (hpr : hp ≠ r) (hgr : g ≠ r) (hh : V.heap[hp]? = some (.cells #[.slice (some ⟨g, 0, none⟩) (n + 1) cap] 101 (0, 0))) (hl : Lead m0 g cap (n + 1) V D) (hB : Kp m0 r W0 V) (hrs : r < W0.heap.size → r < V.heap.size) :
    Wt m0 r hp n (V.setCell ⟨hp, 0, none⟩ (.slice (some ⟨g, 0, none⟩) n cap)) D ∧ Kp m0 r W0 (V.setCell ⟨hp, 0, none⟩ (.slice (some ⟨g, 0, none⟩) n cap)) := by
  obtain ⟨hne, hmg⟩ := lead_ne hh hl
  have hs := one_setCell (u := .slice (some ⟨g, 0, none⟩) n cap) hh
  refine ⟨⟨⟨hmp, hpr⟩, g, cap, hs, ⟨?_⟩, hgr⟩, hB.1.setCell (p := ⟨hp, 0, none⟩) hmp _, fun q => (Below.heap_setCell V ⟨hp, 0, none⟩ _ r (fun e => hpr e.symm)).trans (hB.2 q)⟩
  obtain ⟨h1, ⟨hv, _⟩ | ⟨g', cap', cur, hv, hb, hg, hc, hm, hsz, ht⟩⟩ := hl.own
  · cases hv
  · injection hv with ha _ hcc
    injection ha with ha
    injection ha with ha
    subst ha hcc
    refine ⟨flatL_len _ _, .inr ⟨g, cap, cur, rfl, hb, (Below.heap_setCell V ⟨hp, 0, none⟩ _ g hne).trans hg, by omega, hm, hsz, ?_⟩⟩
    rw [← flatL_less, ← ht, List.take_take]
    congr 1
    omega

set_option maxHeartbeats 1600000 in
theorem pop (m0 r hp n : Nat) (D : Nat → Int × Int) (W : World) (hn : n + 1 ≤ 1048576) (h : Wt m0 r hp (n + 1) W D) :
    Calls Tryz.prog 146 #[.pointer (some ⟨hp, 0, none⟩)] W fun e w' => e = .returned (.iface 78 (.agg #[.int .i64 (D n).1, .int .i64 (D n).2])) ∧ Wt m0 r hp n w' D ∧ Kp m0 r W w' := by
  obtain ⟨⟨hmp, hpr⟩, g, cap, hh, hl, hgr⟩ := h
  have hlt : hp < W.heap.size := (Array.getElem?_eq_some_iff.1 hh).1
  have c0 := cell_of hh
  have f0 := frozen_of hh
  obtain ⟨d0, d1⟩ := hl.cells n (by omega)
  have hcap : n + 1 ≤ cap := by
    obtain ⟨_, ⟨hv, _⟩ | ⟨g', cap', cur, hv, _, _, hc, _⟩⟩ := hl.own
    · cases hv
    · injection hv with _ _ hcc
      omega
  have HP : Hid (Wt m0 r hp n ((W.setCell ⟨hp, 0, none⟩ (.slice (some ⟨g, 0, none⟩) n cap)).alloc (.cells #[.int .i64 (D n).1, .int .i64 (D n).2] 78)) D ∧ Kp m0 r W ((W.setCell ⟨hp, 0, none⟩ (.slice (some ⟨g, 0, none⟩) n cap)).alloc (.cells #[.int .i64 (D n).1, .int .i64 (D n).2] 78))) := by
    obtain ⟨p1, p2⟩ := take_out hmp hpr hgr hh hl (kp_refl _ _ W) (fun q => q)
    have q := wt_lt p1
    exact ⟨wt_alloc p1 _, p2.1.alloc (by omega) _, fun q => (Below.heap_alloc _ _ r (Nat.lt_of_lt_of_le q p2.1.size)).trans (p2.2 q)⟩
  have hn1 : (n : Int) < (n : Int) + 1 := by omega
  have hn2 : ((n + 1 : Nat) : Int) = (n : Int) + 1 := by omega
  have hn3 : IntKind.i64.wrap ((n : Int) + 1 - 1) = (n : Int) := by rw [IntKind.wrap_i64]; omega
  have hn4 : (n : Int) ≤ (cap : Int) := by omega
  clear hh hl
  generalize D n = x at d0 d1 HP ⊢
  obtain ⟨xn, xr⟩ := x
  dsimp only at d0 d1 HP ⊢
  go_enter Tryz.func146, Tryz.ntmps146
  go_wp2
  go_ret
  exact ⟨rfl, HP.out.1, HP.out.2⟩

end Fw
end Go.Proofs.YthdjfmndakeaiaaGreat

namespace Go.Proofs.YthdjfmndakeaiaaGreat
open Go.RowKit
set_option maxRecDepth 100000
set_option linter.unusedVariables false
namespace Fw

theorem ltL_ord : Hp.Ord ltL where
  asym := fun a b h => by
    unfold ltL at *
    split at h
    · rename_i e
      rw [if_pos e.symm]; rw [decide_eq_true_eq] at h; rw [decide_eq_false_iff_not]; omega
    · rename_i e
      rw [if_neg (fun q => e q.symm)]; rw [decide_eq_true_eq] at h; rw [decide_eq_false_iff_not]; omega
  ntr := fun a b c h1 h2 => by
    unfold ltL at *
    split at h1 <;> split at h2 <;> split <;> rw [decide_eq_false_iff_not] at * <;> omega
theorem ltL_no {a b : Int × Int} (h : ltL a b = false) : a.2 ≤ b.2 ∧ (a.2 = b.2 → b.1 ≤ a.1) := by
  unfold ltL at h
  split at h
  · rw [decide_eq_false_iff_not] at h; omega
  · rw [decide_eq_false_iff_not] at h; omega

def bx (x : Int × Int) : Value := .iface 78 (.agg #[.int .i64 x.1, .int .i64 x.2])

theorem wt_drewN {m0 r hp n : Nat} {W : World} {D : Nat → Int × Int} (h : Wt m0 r hp n W D) (m : Nat) : Wt m0 r hp n (W.drewN m) D := by
  obtain ⟨h0, g, cap, hh, hl, hr⟩ := h
  exact ⟨h0, g, cap, hh, ⟨hl.own⟩, hr⟩
theorem lead_drewN {m0 g cap n : Nat} {W : World} {D : Nat → Int × Int} (h : Lead m0 g cap n W D) (m : Nat) : Lead m0 g cap n (W.drewN m) D := ⟨h.own⟩

theorem heaps (m0 r hp : Nat) (Q : World → Prop) (hQ : ∀ W W', Q W → Kp m0 r W W' → Q W') : Hp.Heaps ltL hp 1048576 (fun n W D => Wt m0 r hp n W D ∧ Q W) where
  keep := fun n hn => {
    less := fun W D i j ⟨⟨h0, g, cap, hh, hl, hr⟩, hq⟩ hi hj => ⟨_, cell_of hh, (less g cap n D i j hi hj W hl.cells).mono fun e w' ⟨he, m, hw⟩ => by
      subst hw
      exact ⟨he, ⟨h0, g, cap, hh, ⟨hl.own⟩, hr⟩, hQ _ _ hq (kp_drewN _ _ _ _)⟩⟩
    swap := fun W D i j ⟨⟨h0, g, cap, hh, hl, hr⟩, hq⟩ hi hj => ⟨_, cell_of hh, (swap g cap n D i j hi hj W hl.cells (fun k _ => World.ownsRow.frozenAt hl.own k)).mono fun e w' ⟨he, m, hw⟩ => by
      subst hw
      obtain ⟨hne, hmg⟩ := lead_ne hh hl
      have l2 := (hl.put i (D j)).put j (D i)
      rw [swap_puts] at l2
      have hb : Below m0 W (putL (putL W g i (D j)) g j (D i)) := by
        unfold putL
        exact ((((Below.refl m0 W).setCell (p := ⟨g, i * 2, none⟩) hmg _).setCell (p := ⟨g, i * 2 + 1, none⟩) hmg _).setCell (p := ⟨g, j * 2, none⟩) hmg _).setCell (p := ⟨g, j * 2 + 1, none⟩) hmg _
      have ho : ∀ b, b ≠ g → (putL (putL W g i (D j)) g j (D i)).heap[b]? = W.heap[b]? := fun b hb => by
        unfold putL
        rw [Below.heap_setCell _ ⟨g, j * 2 + 1, none⟩ _ b hb, Below.heap_setCell _ ⟨g, j * 2, none⟩ _ b hb, Below.heap_setCell _ ⟨g, i * 2 + 1, none⟩ _ b hb, Below.heap_setCell _ ⟨g, i * 2, none⟩ _ b hb]
      have hk : Kp m0 r W ((putL (putL W g i (D j)) g j (D i)).drewN m) := ⟨⟨hb.os, hb.tape, hb.output, hb.size, hb.block⟩, fun _ => ho r (fun e => hr e.symm)⟩
      refine ⟨he, ⟨h0, g, cap, (ho hp (fun e => hne e.symm)).trans hh, ⟨l2.own⟩, hr⟩, hQ _ _ hq hk⟩⟩ }
  len := fun n W D hn ⟨⟨h0, g, cap, hh, hl, hr⟩, hq⟩ => ⟨_, cell_of hh, (len _ cap n W).mono fun e w' ⟨he, hw⟩ => by
    subst hw
    exact ⟨he, ⟨h0, g, cap, hh, hl, hr⟩, hq⟩⟩
theorem pushes (m0 r hp : Nat) (Q : World → Prop) (hr : ∀ W, Q W → r < m0 ∨ ∃ cs t fz, t ≠ 78 ∧ W.heap[r]? = some (.cells cs t fz)) (hQ : ∀ W W', Q W → Kp m0 r W W' → Q W') : Hp.Pushes hp 1048576 (fun n W D => Wt m0 r hp n W D ∧ Q W) bx :=
  fun n W D x hn ⟨h, hq⟩ => (push m0 r hp n D x W (hr W hq) hn h).mono fun e w' ⟨he, hw, hb⟩ => ⟨he, hw, hQ _ _ hq hb⟩
theorem pops (m0 r hp : Nat) (Q : World → Prop) (hQ : ∀ W W', Q W → Kp m0 r W W' → Q W') : Hp.Pops hp 1048576 (fun n W D => Wt m0 r hp n W D ∧ Q W) bx :=
  fun n W D hn ⟨h, hq⟩ => (pop m0 r hp n D W hn h).mono fun e w' ⟨he, hw, hb⟩ => ⟨he, hw, hQ _ _ hq hb⟩

theorem wt_far {m0 r r' hp n : Nat} {W : World} {D : Nat → Int × Int} (h : Wt m0 r hp n W D) (hr : W.heap.size ≤ r') : Wt m0 r' hp n W D := by
  obtain ⟨⟨h0, _⟩, g, cap, hh, hl, _⟩ := h
  have h1 := (Array.getElem?_eq_some_iff.1 hh).1
  have h2 := (World.ownsRow.lt hl.own g rfl).2
  exact ⟨⟨h0, by omega⟩, g, cap, hh, hl, by omega⟩
/-- a store elsewhere -/
theorem wt_set {m0 r hp n b i : Nat} {W : World} {D : Nat → Int × Int} (h : Wt m0 r hp n W D) (u : Value) (hb : b = r) : Wt m0 r hp n (W.setCell ⟨b, i, none⟩ u) D := by
  obtain ⟨⟨h0, h1⟩, g, cap, hh, hl, h2⟩ := h
  refine ⟨⟨h0, h1⟩, g, cap, (Below.heap_setCell W ⟨b, i, none⟩ u hp (by simp; omega)).trans hh, ⟨?_⟩, h2⟩
  obtain ⟨q1, ⟨hv, _⟩ | ⟨g', cap', cur, hv, hb', hg, rest⟩⟩ := hl.own
  · cases hv
  · injection hv with ha hn hcc
    injection ha with ha
    injection ha with ha
    subst ha hcc
    exact ⟨q1, .inr ⟨g, cap, cur, rfl, hb', (Below.heap_setCell W ⟨b, i, none⟩ u g (by simp; omega)).trans hg, rest⟩⟩
theorem wt_near {m0 r r' hp n : Nat} {W : World} {D : Nat → Int × Int} (h : Wt m0 r hp n W D) (hr : r' < m0) : Wt m0 r' hp n W D := by
  obtain ⟨⟨h0, _⟩, g, cap, hh, hl, _⟩ := h
  have h2 := (World.ownsRow.lt hl.own g rfl).1
  exact ⟨⟨h0, by omega⟩, g, cap, hh, hl, by omega⟩

set_option maxHeartbeats 1600000 in
theorem next (m0 r hp n : Nat) (hr : r < m0) (Q : World → Prop) (hQ : ∀ W W', Q W → Below m0 W W' → Q W') (D : Nat → Int × Int) (W : World) (hn : n + 1 ≤ 1048576) (h : Wt m0 r hp (n + 1) W D) (hq : Q W) :
    Calls Tryz.prog 47 #[.pointer (some ⟨hp, 0, none⟩)] W fun e w' => e = .returned (.agg #[.int .i64 (D 0).1, .int .i64 (D 0).2]) ∧ Wt m0 r hp n w' (Hp.popT ltL n D) ∧ Q w' := by
  have hlt := wt_lt h
  have HN : Hid ((W.alloc (.cells #[.int .i64 0, .int .i64 0] 78)).heap[W.heap.size]? = some (.cells #[.int .i64 0, .int .i64 0] 78 (0, 0))) := by
    show (W.heap.push _)[W.heap.size]? = _
    rw [Array.getElem?_push_size]
  have HW : Hid (Wt m0 W.heap.size hp (n + 1) (W.alloc (.cells #[.int .i64 0, .int .i64 0] 78)) D) := wt_alloc (wt_far h (Nat.le_refl _)) _
  have HB : Hid (Q (W.alloc (.cells #[.int .i64 0, .int .i64 0] 78))) := hQ _ _ hq ((Below.refl m0 W).alloc (by omega) _)
  have HP : Hid (∀ V : World, Wt m0 W.heap.size hp (n + 1) V D → Q V → V.heap[W.heap.size]? = some (.cells #[.int .i64 0, .int .i64 0] 78 (0, 0)) →
      Calls Tryz.prog 70 #[.iface 73 (.pointer (some ⟨hp, 0, none⟩))] V fun e w' => e = .returned (bx (D 0)) ∧ Wt m0 W.heap.size hp n w' (Hp.popT ltL n D) ∧ Q w' ∧ w'.heap[W.heap.size]? = some (.cells #[.int .i64 0, .int .i64 0] 78 (0, 0))) := fun V h1 h2 h3 => by
    have hQ' : ∀ A B : World, (Q A ∧ A.heap[W.heap.size]? = some (.cells #[.int .i64 0, .int .i64 0] 78 (0, 0))) → Kp m0 W.heap.size A B → (Q B ∧ B.heap[W.heap.size]? = some (.cells #[.int .i64 0, .int .i64 0] 78 (0, 0))) := fun A B ⟨q1, q2⟩ k => ⟨hQ A B q1 k.1, (k.2 (Array.getElem?_eq_some_iff.1 q2).1).trans q2⟩
    exact (Hp.heapPop ltL hp 1048576 _ bx (heaps m0 W.heap.size hp _ hQ') (pops m0 W.heap.size hp _ hQ') (Nat.le_refl _) n hn D V ⟨h1, h2, h3⟩).mono fun e w' ⟨q0, q1, q2, q3⟩ => ⟨q0, q1, q2, q3⟩
  have HQ : Hid (∀ A B : World, Q A → Below m0 A B → Q B) := hQ
  have hms : m0 ≤ W.heap.size := by omega
  have hta := asL
  unfold bx at HP
  generalize (D 0).1 = x0 at HP ⊢
  generalize (D 0).2 = x1 at HP ⊢
  clear h hq hQ hlt
  go_enter Tryz.func47, Tryz.ntmps47
  go_wp2_with fail
  refine (HP.out _ HW.out HB.out HN.out).mono ?_
  rintro e w1 ⟨rfl, hw1, hq1, hb1⟩
  have HW1 : Hid (Wt m0 W.heap.size hp n w1 (Hp.popT ltL n D)) := hw1
  have HQ1 : Hid (Q w1) := hq1
  have d0 : w1.cell? ⟨W.heap.size, 0, none⟩ = some (.int .i64 0) := by simp [World.cell?, hb1]
  have d1 : w1.cell? ⟨W.heap.size, 1, none⟩ = some (.int .i64 0) := by simp [World.cell?, hb1]
  have f0 : w1.frozen? ⟨W.heap.size, 0, none⟩ = false := by simp [World.frozen?, hb1]
  have f1 : w1.frozen? ⟨W.heap.size, 1, none⟩ = false := by simp [World.frozen?, hb1]
  clear HP HW HB HN hw1 hq1 hb1
  generalize W.heap.size = b at *
  go_wp2
  refine bodyPost_ret (v := .agg #[.int .i64 x0, .int .i64 x1]) (by simp [results, Tryz.f47, go_sem, d0, d1]) rfl ?_
  exact ⟨rfl, wt_near (wt_set (wt_set HW1.out _ rfl) _ rfl) hr, HQ.out _ _ HQ1.out (((Below.refl m0 w1).setCell (p := ⟨b, 0, none⟩) hms _).setCell (p := ⟨b, 1, none⟩) hms _)⟩

end Fw
end Go.Proofs.YthdjfmndakeaiaaGreat

namespace Go.Proofs.YthdjfmndakeaiaaGreat
open Go.RowKit
set_option maxRecDepth 100000
set_option linter.unusedVariables false
namespace Fw
open Kn (K okK)
open Bit (bit withB)
open Lc (at' RdK WordsOk laceB setB handsN roundS)
open Ch (leadK firmN sealAt)

theorem wt_below {m0 r hp n : Nat} {W W' : World} {D : Nat → Int × Int} (h : Wt m0 r hp n W D) (hb : Below W.heap.size W W') : Wt m0 r hp n W' D := by
  obtain ⟨h0, g, cap, hh, hl, hr⟩ := h
  exact ⟨h0, g, cap, (hb.block hp (Array.getElem?_eq_some_iff.1 hh).1).trans hh, ⟨Fm.row_below hl.own hb⟩, hr⟩
theorem wt_base {m0 m1 r r' hp n : Nat} {W : World} {D : Nat → Int × Int} (h : Wt m0 r hp n W D) (hm : m1 ≤ m0) (hr : r' < m1) : Wt m1 r' hp n W D := by
  obtain ⟨h0, g, cap, hh, hl, _⟩ := wt_near (r' := r') h (by omega)
  have h2 := (World.ownsRow.lt hl.own g rfl).1
  refine ⟨⟨by omega, by omega⟩, g, cap, hh, ⟨?_⟩, by omega⟩
  obtain ⟨q1, ⟨hv, _⟩ | ⟨g', cap', cur, hv, hb', rest⟩⟩ := hl.own
  · exact ⟨q1, .inl ⟨hv, by cases hv⟩⟩
  · exact ⟨q1, .inr ⟨g', cap', cur, hv, by omega, rest⟩⟩

/-- the heap holds those of the first j that lead -/
def Holds (L : List K) (C : List Int) (l : List Int) (n : Nat) (D : Nat → Int × Int) : Prop := ∀ x : Int × Int, (∃ i, i < n ∧ D i = x) ↔ ∃ k : Nat, (k : Int) ∈ l ∧ k < L.length ∧ leadK C (at' L k) = true ∧ x = ((k : Int), (at' L k).round)
theorem holds_skip {L : List K} {C : List Int} {l : List Int} {n : Nat} {D : Nat → Int × Int} (h : Holds L C l n D) {p : Nat} (hl : leadK C (at' L p) = false) : Holds L C (l ++ [(p : Int)]) n D := fun x => by
  rw [h x]
  constructor
  · rintro ⟨k, h1, h2⟩
    exact ⟨k, by simp [h1], h2⟩
  · rintro ⟨k, h1, h2, h3, h4⟩
    rw [List.mem_append, List.mem_singleton] at h1
    rcases h1 with h1 | h1
    · exact ⟨k, h1, h2, h3, h4⟩
    · obtain rfl : k = p := by omega
      rw [hl] at h3; cases h3
theorem holds_push {L : List K} {C : List Int} {l : List Int} {n : Nat} {D : Nat → Int × Int} (h : Holds L C l n D) {p : Nat} (hp : p < L.length) (hl : leadK C (at' L p) = true) : Holds L C (l ++ [(p : Int)]) (n + 1) (Hp.pushT ltL n D ((p : Int), (at' L p).round)) := fun x => by
  have hs := Hp.pushT_same ltL n D ((p : Int), (at' L p).round)
  constructor
  · rintro ⟨i, hi, rfl⟩
    obtain ⟨m, hm, e⟩ := hs.fro i hi
    rw [← e]
    by_cases hmn : m = n
    · exact ⟨p, by simp, hp, hl, by rw [if_pos hmn]⟩
    · rw [if_neg hmn]
      obtain ⟨k, h1, h2⟩ := (h (D m)).1 ⟨m, by omega, rfl⟩
      exact ⟨k, by simp [h1], h2⟩
  · rintro ⟨k, h1, h2, h3, h4⟩
    rw [List.mem_append, List.mem_singleton] at h1
    rcases h1 with h1 | h1
    · obtain ⟨i, hi, e⟩ := (h x).2 ⟨k, h1, h2, h3, h4⟩
      obtain ⟨m, hm, e2⟩ := hs.to i (by omega)
      rw [if_neg (by omega)] at e2
      exact ⟨m, hm, e2.trans e⟩
    · obtain rfl : k = p := by omega
      obtain ⟨m, hm, e2⟩ := hs.to n (by omega)
      rw [if_pos rfl] at e2
      exact ⟨m, hm, e2.trans h4.symm⟩
theorem holds_none (L : List K) (C : List Int) (D : Nat → Int × Int) : Holds L C [] 0 D := fun x => ⟨fun ⟨i, hi, _⟩ => by omega, fun ⟨k, h, _⟩ => by simp at h⟩

/-- how waitingOf ends -/
def WaitPost (L : List K) (C : List Int) (s : Int) (r : Nat) (w : World) (e : Ending) (w' : World) : Prop :=
  ∃ hp n D, e = .returned (.pointer (some ⟨hp, 0, none⟩)) ∧ n ≤ 60 ∧ Wt w.heap.size r hp n w' D ∧ Hp.IsHeap ltL n D ∧ Holds L C (Memb.memI s) n D ∧ Below w.heap.size w w'

set_option maxHeartbeats 3200000 in
theorem waitingOf (g off cap : Nat) (L : List K) (C : List Int) (s : Int) (w : World) (hlc : laceB L = true) (hc : Rm.coinsB C = true) (hg : g < w.heap.size) (hr : RdK w (some ⟨g, off, none⟩) L) (h0 : 0 ≤ s) (h1 : s < 1152921504606846976) (hd : s / 2 ^ L.length = 0) :
    Calls Tryz.prog 44 #[.slice (some ⟨g, off, none⟩) L.length cap, .agg #[.int .i64 (Ch.leadI C 0), .int .i64 (Ch.leadI C 1), .int .i64 (Ch.leadI C 2), .int .i64 (Ch.leadI C 3), .int .i64 (Ch.leadI C 4), .int .i64 (Ch.leadI C 5), .int .i64 (Ch.leadI C 6)], .int .i64 s] w (WaitPost L C s g w) := by
  have h60 := ((Lc.lace_iff L).1 hlc).1
  have hok : Base.okB s = true := (Base.okB_iff s).2 ⟨h0, h1⟩
  have hmem : Memb.memI s = Bit.memTo s 60 := by unfold Memb.memI; rw [hok]; rfl
  have HIN : Hid (∀ i ∈ Memb.memI s, 0 ≤ i ∧ i < (L.length : Int)) := by rw [hmem]; exact Lc.mem_in L s h0 hd
  have hle : (Memb.memI s).length ≤ 60 := Memb.memI_le s
  have HLS : Hid (∀ (W : World) (p : Nat), p < L.length → Below w.heap.size w W → Calls Tryz.prog 66 #[.slice (some ⟨g, off, none⟩) L.length cap, .agg #[.int .i64 (Ch.leadI C 0), .int .i64 (Ch.leadI C 1), .int .i64 (Ch.leadI C 2), .int .i64 (Ch.leadI C 3), .int .i64 (Ch.leadI C 4), .int .i64 (Ch.leadI C 5), .int .i64 (Ch.leadI C 6)], .int .i64 (p : Int)] W fun e w' => e = .returned (.bool (leadK C (at' L p))) ∧ Below W.heap.size W w') := fun W p hp hW => by
    have := leads7 g off cap L C (p : Int) W hlc hc (Nat.lt_of_lt_of_le hg hW.size) (hr.below hW)
    have e : Ch.leadsB L C (p : Int) = leadK C (at' L p) := by unfold Ch.leadsB; rw [Db.isB_lace hlc, hc, Int.toNat_natCast]; simp; omega
    rw [e] at this
    exact this
  have HC1 : Hid (∀ (W : World) (p : Nat), p < L.length → Below w.heap.size w W → W.cell? ⟨g, off + p * 4 + 1, none⟩ = some (.int .i64 (at' L p).round)) := fun W p hp hW => by
    obtain ⟨_, _, q, _, _⟩ := (hr.below hW).on p hp
    exact q
  have HR7 : Hid (Db.RowI (w.alloc (.cells #[.int .i64 (Ch.leadI C 0), .int .i64 (Ch.leadI C 1), .int .i64 (Ch.leadI C 2), .int .i64 (Ch.leadI C 3), .int .i64 (Ch.leadI C 4), .int .i64 (Ch.leadI C 5), .int .i64 (Ch.leadI C 6)] 44)) w.heap.size 7 (fun i => Ch.leadI C (i : Int))) := Ch.rowI_seven w 44 (fun i => Ch.leadI C (i : Int))
  generalize hw0 : w.alloc (.cells #[.int .i64 (Ch.leadI C 0), .int .i64 (Ch.leadI C 1), .int .i64 (Ch.leadI C 2), .int .i64 (Ch.leadI C 3), .int .i64 (Ch.leadI C 4), .int .i64 (Ch.leadI C 5), .int .i64 (Ch.leadI C 6)] 44) = w0 at HR7
  have hs0 : w0.heap.size = w.heap.size + 1 := by rw [← hw0]; simp
  have HB0 : Hid (Below w.heap.size w w0) := by rw [← hw0]; exact (Below.refl _ _).alloc (Nat.le_refl _) _
  have HWT : Hid (∀ r, r ≠ w.heap.size + 1 → r ≠ w.heap.size + 2 → Wt (w.heap.size + 1) r (w.heap.size + 2) 0 ((w0.alloc (.cells #[] 78)).alloc (.cells #[.slice (some ⟨w.heap.size + 1, 0, none⟩) 0 0] 101)) (fun _ => (0, 0))) := fun r hr1 hr2 => by
    refine ⟨⟨by omega, by omega⟩, w.heap.size + 1, 0, ?_, ⟨?_⟩, by omega⟩
    · show ((w0.heap.push _).push _)[w.heap.size + 2]? = _
      have : w.heap.size + 2 = (w0.heap.push (.cells #[] 78)).size := by rw [Array.size_push]; omega
      rw [this, Array.getElem?_push_size]
    · refine ⟨rfl, .inr ⟨w.heap.size + 1, 0, #[], rfl, Nat.le_refl _, ?_, Nat.le_refl _, Nat.zero_le _, rfl, rfl⟩⟩
      show ((w0.heap.push _).push _)[w.heap.size + 1]? = _
      rw [Array.getElem?_push_lt (by rw [Array.size_push]; omega)]
      have : w.heap.size + 1 = w0.heap.size := by omega
      simp [this]
  have hs1 : ((w0.alloc (.cells #[] 78)).alloc (.cells #[.slice (some ⟨w.heap.size + 1, 0, none⟩) 0 0] 101)).heap.size = w.heap.size + 3 := by simp; omega
  have HB1 : Hid (Below (w.heap.size + 1) w0 ((w0.alloc (.cells #[] 78)).alloc (.cells #[.slice (some ⟨w.heap.size + 1, 0, none⟩) 0 0] 101))) := ((Below.refl _ _).alloc (by omega) _).alloc (by simp; omega) _
  clear hr hlc hc hmem hok
  go_enter Tryz.func44, Tryz.ntmps44
  go_wp2_with fail
  refine (Memb.picked s _).mono ?_
  rintro e w2 ⟨ao, ca, rfl, hown, hb2⟩
  have HBW : Hid (Below (w.heap.size + 1) w0 w2) := HB1.out.trans (hb2.mono (by omega))
  obtain ⟨r, HRT⟩ : ∃ r, Hid ((r ≠ w.heap.size + 1 ∧ r ≠ w.heap.size + 2) ∧ (r < w.heap.size + 1 ∨ ∃ cs t fz, t ≠ 78 ∧ w2.heap[r]? = some (.cells cs t fz)) ∧ ∀ V : World, V.heap[r]? = w2.heap[r]? → Lst.Rd V ao (Memb.memI s)) := by
    obtain ⟨q1, ⟨hv, hn⟩ | ⟨g2, cap2, cur, hv, hb, hg2, rest⟩⟩ := hown
    · exact ⟨w.heap.size, ⟨by omega, by omega⟩, .inl (by omega), fun V _ => .inl (List.length_eq_zero_iff.1 hn)⟩
    · refine ⟨g2, ⟨by omega, by omega⟩, .inr ⟨cur, _, _, by decide, hg2⟩, fun V hV => ?_⟩
      exact Lst.own_rd (B := 0) (cap := ca) ⟨q1, .inr ⟨g2, cap2, cur, hv, Nat.zero_le _, hV.trans hg2, rest⟩⟩
  have HW2 : Hid (Wt (w.heap.size + 1) r (w.heap.size + 2) 0 w2 (fun _ => (0, 0))) := wt_below (HWT.out r HRT.out.1.1 HRT.out.1.2) hb2
  have HPU : Hid (∀ (n : Nat) (D : Nat → Int × Int) (x : Int × Int) (V : World), n + 1 ≤ 1048576 → Wt (w.heap.size + 1) r (w.heap.size + 2) n V D → Below (w.heap.size + 1) w2 V ∧ V.heap[r]? = w2.heap[r]? →
      Calls Tryz.prog 67 #[.iface 73 (.pointer (some ⟨w.heap.size + 2, 0, none⟩)), .iface 78 (.agg #[.int .i64 x.1, .int .i64 x.2])] V fun e w' => e = .returned (.tuple #[]) ∧ Wt (w.heap.size + 1) r (w.heap.size + 2) (n + 1) w' (Hp.pushT ltL n D x) ∧ (Below (w.heap.size + 1) w2 w' ∧ w'.heap[r]? = w2.heap[r]?)) := fun n D x V hn hW hq => by
    have hlt : r < w2.heap.size ∨ w2.heap[r]? = none := by
      by_cases h : r < w2.heap.size
      · exact .inl h
      · exact .inr (Array.getElem?_eq_none (by omega))
    have hQ' : ∀ A B : World, (Below (w.heap.size + 1) w2 A ∧ A.heap[r]? = w2.heap[r]?) → Kp (w.heap.size + 1) r A B → (Below (w.heap.size + 1) w2 B ∧ B.heap[r]? = w2.heap[r]?) := fun A B ⟨q1, q2⟩ k => by
      refine ⟨q1.trans k.1, ?_⟩
      by_cases hr1 : r < w.heap.size + 1
      · exact (k.1.block r hr1).trans q2
      · rcases HRT.out.2.1 with q | ⟨cs, t, fz, _, q⟩
        · omega
        · have hA : A.heap[r]? = some (.cells cs t fz) := q2.trans q
          exact (k.2 (Array.getElem?_eq_some_iff.1 hA).1).trans q2
    have hr' : ∀ A : World, (Below (w.heap.size + 1) w2 A ∧ A.heap[r]? = w2.heap[r]?) → r < w.heap.size + 1 ∨ ∃ cs t fz, t ≠ 78 ∧ A.heap[r]? = some (.cells cs t fz) := fun A ⟨q1, q2⟩ => by
      rcases HRT.out.2.1 with q | ⟨cs, t, fz, ht, q⟩
      · exact .inl q
      · exact .inr ⟨cs, t, fz, ht, q2.trans q⟩
    exact Hp.heapPush ltL (w.heap.size + 2) 1048576 _ bx (heaps (w.heap.size + 1) r (w.heap.size + 2) _ hQ') (pushes (w.heap.size + 1) r (w.heap.size + 2) _ hr' hQ') (Nat.le_refl _) n hn D x V ⟨hW, hq⟩
  have HRL : Hid (∀ V : World, V.heap[r]? = w2.heap[r]? → Lst.Rd V ao (Memb.memI s)) := HRT.out.2.2
  have HLOW : Hid (∀ V : World, Below (w.heap.size + 1) w2 V → Below w.heap.size w V) := fun V hV => (HB0.out.trans (HBW.out.mono (by omega))).trans (hV.mono (by omega))
  have HCY : Hid (∀ V : World, Below (w.heap.size + 1) w2 V → ∀ i, i < 7 → V.cell? ⟨w.heap.size, i, none⟩ = some (.int .i64 (Ch.leadI C (i : Int)))) := fun V hV i hi => ((HBW.out.trans hV).cell (p := ⟨w.heap.size, i, none⟩) (by simp)).trans (HR7.out.rd i hi)
  have HKR : Hid (∀ V V' : World, Below V.heap.size V V' → Below (w.heap.size + 1) w2 V ∧ V.heap[r]? = w2.heap[r]? → Below (w.heap.size + 1) w2 V' ∧ V'.heap[r]? = w2.heap[r]?) := fun V V' hV ⟨q1, q2⟩ => by
    have hw2s := HBW.out.size
    refine ⟨q1.trans (hV.mono (by have := q1.size; omega)), ?_⟩
    rcases HRT.out.2.1 with q | ⟨cs, t, fz, _, q⟩
    · exact (hV.block r (by have := q1.size; omega)).trans q2
    · have hA : V.heap[r]? = some (.cells cs t fz) := q2.trans q
      exact (hV.block r (Array.getElem?_eq_some_iff.1 hA).1).trans q2
  clear hown hb2 HRT HWT HB1 HR7 HBW HB0 hw0 hs0 hs1
  generalize hml : Memb.memI s = l at HIN hle HRL
  have HML : Hid (Memb.memI s = l) := hml
  clear hml
  go_wp2
  go_loopw [16] (fun i wr => ∃ (j n : Nat) (D : Nat → Int × Int), j ≤ l.length ∧ n ≤ j ∧ i = .int .i64 j ∧ Hid (Wt (w.heap.size + 1) r (w.heap.size + 2) n wr D) ∧ Hid (Hp.IsHeap ltL n D ∧ Holds L C (l.take j) n D) ∧ Hid (Below (w.heap.size + 1) w2 wr ∧ wr.heap[r]? = w2.heap[r]?)) (fun i _ => l.length - (intOf i).toNat)
  case atStart => exact ⟨0, 0, _, by omega, by omega, rfl, HW2, ⟨fun k h0 hk => by omega, holds_none L C _⟩, Below.refl _ _, rfl⟩
  case round =>
    obtain ⟨j, n, D, hj, hnj, rfl, HW, HH, HQ⟩ := hrel
    clear HW2
    by_cases hlt : j < l.length
    · rcases HRL.out wr HQ.out.2 with hrd | ⟨bb, rfl, hcell⟩
      · rw [hrd] at hlt; simp at hlt
      have cj := hcell j hlt
      have hx := HIN.out (l.getD j 0) (by simp [List.getD, List.getElem?_eq_getElem hlt])
      have HTK : Hid (l.take (j + 1) = l.take j ++ [l.getD j 0]) := Lc.take_snocI l j hlt
      generalize l.getD j 0 = xx at cj hx HTK
      obtain ⟨p, rfl⟩ := Int.eq_ofNat_of_zero_le hx.1
      have hp : p < L.length := by omega
      have hpi : (p : Int) < (L.length : Int) := by omega
      have hji : (j : Int) < (l.length : Int) := by omega
      have y0 := HCY.out wr HQ.out.1 0 (by omega)
      have y1 := HCY.out wr HQ.out.1 1 (by omega)
      have y2 := HCY.out wr HQ.out.1 2 (by omega)
      have y3 := HCY.out wr HQ.out.1 3 (by omega)
      have y4 := HCY.out wr HQ.out.1 4 (by omega)
      have y5 := HCY.out wr HQ.out.1 5 (by omega)
      have y6 := HCY.out wr HQ.out.1 6 (by omega)
      have hcall := HLS.out wr p hp (HLOW.out wr HQ.out.1)
      clear hcell hx
      go_wp2_with fail
      refine hcall.mono ?_
      rintro e w3 ⟨rfl, hb3⟩
      have HW3 : Hid (Wt (w.heap.size + 1) r (w.heap.size + 2) n w3 D) := wt_below HW.out hb3
      have HQ3 : Hid (Below (w.heap.size + 1) w2 w3 ∧ w3.heap[r]? = w2.heap[r]?) := HKR.out wr w3 hb3 HQ.out
      clear hcall hb3 y0 y1 y2 y3 y4 y5 y6 cj HW HQ
      cases hld : leadK C (at' L p)
      · have HH2 : Hid (Hp.IsHeap ltL n D ∧ Holds L C (l.take (j + 1)) n D) := by refine ⟨HH.out.1, ?_⟩; rw [HTK.out]; exact holds_skip HH.out.2 hld
        clear hld
        go_wp2
        go_roundw
        case rel => exact ⟨j + 1, n, D, by omega, by omega, by go_num, HW3, HH2, HQ3⟩
        case measure => simp [intOf]; omega
      · have HH2 : Hid (Hp.IsHeap ltL (n + 1) (Hp.pushT ltL n D ((p : Int), (at' L p).round)) ∧ Holds L C (l.take (j + 1)) (n + 1) (Hp.pushT ltL n D ((p : Int), (at' L p).round))) := by
          refine ⟨Hp.pushT_heap ltL_ord n D _ HH.out.1, ?_⟩; rw [HTK.out]; exact holds_push HH.out.2 hp hld
        have hpush := HPU.out n D ((p : Int), (at' L p).round) w3 (by omega) HW3.out HQ3.out
        have cc := HC1.out w3 p hp (HLOW.out w3 HQ3.out.1)
        dsimp only at hpush
        clear hld HW3 HQ3 HH
        go_wp2_with fail
        refine hpush.mono ?_
        rintro e w4 ⟨rfl, hw4, hq4⟩
        have HW4 : Hid _ := hw4
        have HQ4 : Hid _ := hq4
        clear hpush hw4 hq4 cc
        go_wp2
        go_roundw
        case rel => exact ⟨j + 1, n + 1, _, by omega, by omega, by go_num, HW4, HH2, HQ4⟩
        case measure => simp [intOf]; omega
    · obtain rfl : j = l.length := by omega
      have HH2 : Hid (Hp.IsHeap ltL n D ∧ Holds L C (Memb.memI s) n D) := by
        refine ⟨HH.out.1, ?_⟩
        have := HH.out.2
        rw [List.take_length] at this
        rw [HML.out]; exact this
      clear HH
      go_wp2
      go_ret
      exact ⟨w.heap.size + 2, n, D, rfl, by omega, wt_base HW.out (by omega) hg, HH2.out.1, HH2.out.2, HLOW.out wr HQ.out.1⟩

end Fw
end Go.Proofs.YthdjfmndakeaiaaGreat

namespace Go.Proofs.YthdjfmndakeaiaaGreat
open Go.RowKit Go.Shelf
set_option maxRecDepth 100000
set_option linter.unusedVariables false
attribute [local go_sem] Oper.semAt_some
namespace Cn
open Kn (K okK)
open Bit (bit withB)
open Lc (at' RdK WordsOk laceB setB handsN roundS)
open Ch (leadK earN earI earlierN)
open Sl (sealsB sealN)
open Sg (isB bel metI)
open Fw (ltL Wt Holds WaitPost)

/-- none seals itself -/
theorem seal_self {L : List K} (hl : laceB L = true) {k : Nat} (hk : k < L.length) : sealN L k k = false := by
  have h60 := ((Lc.lace_iff L).1 hl).1
  rw [Bool.eq_false_iff]
  intro hs
  unfold Sl.sealN at hs
  rw [decide_eq_true_eq] at hs
  have only : ∀ h : Int, Lc.hasHand L (Sl.nodAt L k k) h = true → (at' L k).hand = h := fun h hh => by
    obtain ⟨i, hi, hb, e⟩ := (Lc.hasHand_iff L _ h).1 hh
    rw [Sl.bit_nodAt h60 (by omega), Bool.and_eq_true, Bool.and_eq_true] at hb
    have p1 := Ag.sees_le hl hk hb.1
    have p2 := Ag.sees_le hl hi ((Nd.nod_iff h60 (by omega)).1 hb.2.2).1
    obtain rfl : i = k := by omega
    exact e
  have two : ∀ x y : Int, (x = 0 ∨ x = 1 ∨ x = 2 ∨ x = 3) → (y = 0 ∨ y = 1 ∨ y = 2 ∨ y = 3) → x ≠ y → (at' L k).hand = x ∨ (at' L k).hand = y := fun x y hx hy hne => by
    rcases Sl.hands_two hs hx hy hne with h | h
    · exact .inl (only _ h)
    · exact .inr (only _ h)
  have a := two 0 1 (by simp) (by simp) (by decide)
  have b := two 2 3 (by simp) (by simp) (by decide)
  omega

/-- the leader before, for any number -/
def earK (L : List K) (C : List Int) (k : Int) : Int := if 0 ≤ k ∧ k < (L.length : Int) then earlierN L C k.toNat else -1

structure EInv (L : List K) (C : List Int) (k : Int) (n : Nat) (D : Nat → Int × Int) : Prop where
  heap : Hp.IsHeap ltL n D
  el : ∀ i, i < n → ∃ x : Nat, x < L.length ∧ bit (metI L k) x = true ∧ leadK C (at' L x) = true ∧ D i = ((x : Int), (at' L x).round)
  all : ∀ x : Nat, x < L.length → bit (metI L k) x = true → leadK C (at' L x) = true → sealsB L k (x : Int) = true → ∃ i, i < n ∧ D i = ((x : Int), (at' L x).round)
  len : n ≤ 60

theorem met_bd {L : List K} (h60 : L.length ≤ 60) (k : Int) : 0 ≤ metI L k ∧ metI L k < 1152921504606846976 := by
  unfold Sg.metI
  split
  · exact Sg.bel_bd L _ (by omega)
  · exact ⟨by omega, by omega⟩
theorem met_in {L : List K} (hl : laceB L = true) (k : Int) : metI L k / 2 ^ L.length = 0 := by
  have h60 := ((Lc.lace_iff L).1 hl).1
  refine Lc.div_of_bits _ _ (met_bd h60 k).1 fun i hi => ?_
  unfold Sg.metI
  split
  · exact Db.bel_hi hl (by omega) (by omega)
  · exact Bit.bit_up 0 0 i (by simp) ▸ (by simp)
theorem e_start {L : List K} (h60 : L.length ≤ 60) {C : List Int} {k : Int} {n : Nat} {D : Nat → Int × Int} (hn : n ≤ 60) (h1 : Hp.IsHeap ltL n D) (h2 : Holds L C (Memb.memI (metI L k)) n D) : EInv L C k n D where
  heap := h1
  el := fun i hi => by
    obtain ⟨x, p1, p2, p3, p4⟩ := (h2 (D i)).1 ⟨i, hi, rfl⟩
    exact ⟨x, p2, (Ak.mem_bit (met_bd h60 k).1 (met_bd h60 k).2 x).1 p1, p3, p4⟩
  all := fun x hx hb hl _ => (h2 _).2 ⟨x, (Ak.mem_bit (met_bd h60 k).1 (met_bd h60 k).2 x).2 hb, hx, hl, rfl⟩
  len := hn
theorem pair_eq {a b : Nat} {x y : Int} (h : ((a : Int), x) = ((b : Int), y)) : a = b := by injection h with h _; omega
theorem e_skip {L : List K} {C : List Int} {k : Int} {n : Nat} {D : Nat → Int × Int} (h : EInv L C k (n + 1) D) {x : Nat} (e : D 0 = ((x : Int), (at' L x).round)) (hf : sealsB L k (x : Int) = false) : EInv L C k n (Hp.popT ltL n D) where
  heap := Hp.popT_heap Fw.ltL_ord n D h.heap
  el := fun i hi => by
    obtain ⟨m, _, hm, em⟩ := (Hp.popT_left ltL n D).1 i hi
    obtain ⟨j, p⟩ := h.el m hm
    exact ⟨j, p.1, p.2.1, p.2.2.1, em.symm.trans p.2.2.2⟩
  all := fun j hj hb hl hs => by
    obtain ⟨i, hi, ei⟩ := h.all j hj hb hl hs
    by_cases h0 : i = 0
    · subst h0
      obtain rfl := pair_eq (e.symm.trans ei)
      rw [hf] at hs; cases hs
    · obtain ⟨m, hm, em⟩ := (Hp.popT_left ltL n D).2 i (by omega) hi
      exact ⟨m, hm, em.trans ei⟩
  len := by have := h.len; omega
theorem seals_in {L : List K} {a b : Int} (h : sealsB L a b = true) : (0 ≤ a ∧ a < (L.length : Int)) ∧ (0 ≤ b ∧ b < (L.length : Int)) ∧ sealN L a.toNat b.toNat = true := by
  unfold Sl.sealsB at h
  rw [Bool.and_eq_true, Bool.and_eq_true] at h
  obtain ⟨a0, a1, _⟩ := Sg.isB_parts h.1
  obtain ⟨b0, b1, _⟩ := Sg.isB_parts h.2.1
  exact ⟨⟨a0, a1⟩, ⟨b0, b1⟩, h.2.2⟩
theorem seals_of {L : List K} (hl : laceB L = true) {k x : Nat} (hk : k < L.length) (hx : x < L.length) (h : sealN L k x = true) : sealsB L (k : Int) (x : Int) = true := by
  unfold Sl.sealsB
  rw [Db.isB_lace hl, Db.isB_lace hl, Int.toNat_natCast, Int.toNat_natCast, h]
  simp [hk, hx]
theorem e_take {L : List K} (hl : laceB L = true) {C : List Int} {k : Int} {n : Nat} {D : Nat → Int × Int} (h : EInv L C k (n + 1) D) {x : Nat} (hx : x < L.length) (hb : bit (metI L k) x = true) (hlx : leadK C (at' L x) = true) (e : D 0 = ((x : Int), (at' L x).round)) (hf : sealsB L k (x : Int) = true) : earK L C k = (x : Int) := by
  obtain ⟨⟨k0, k1⟩, _, hs⟩ := seals_in hf
  obtain ⟨p, rfl⟩ : ∃ p : Nat, k = (p : Int) := ⟨k.toNat, by omega⟩
  have hp : p < L.length := by omega
  have hm : metI L (p : Int) = bel L p := by unfold Sg.metI; rw [if_pos ⟨k0, k1⟩, Int.toNat_natCast]
  rw [hm] at hb
  rw [Int.toNat_natCast, Int.toNat_natCast] at hs
  have hxp : x < p := by
    have := Ag.sees_le hl hp hb
    rcases Nat.lt_or_ge x p with q | q
    · exact q
    · obtain rfl : x = p := by omega
      rw [seal_self hl hp] at hs; cases hs
  have hear : earN L C p x = true := by unfold Ch.earN; rw [hb, hlx, hs]; rfl
  unfold earK
  rw [if_pos ⟨k0, k1⟩, Int.toNat_natCast]
  unfold Ch.earlierN
  rcases Ch.ear_spec L C p p with ⟨_, q⟩ | ⟨y, q1, q2, q3, q4⟩
  · rw [q x hxp] at hear; cases hear
  · rw [q1]
    have hy := q3
    unfold Ch.earN at hy
    rw [Bool.and_eq_true, Bool.and_eq_true] at hy
    obtain ⟨i, hi, ei⟩ := h.all y (by omega) (by rw [hm]; exact hy.1) hy.2.1 (seals_of hl hp (by omega) hy.2.2)
    have t := Fw.ltL_no (Hp.top Fw.ltL_ord h.heap i hi)
    rw [ei, e] at t
    obtain ⟨t1, t2⟩ := t
    obtain ⟨r1, r2⟩ := q4 x hxp hear
    have er : (at' L y).round = (at' L x).round := Int.le_antisymm t1 r1
    have a1 := t2 er
    have a2 := r2 er.symm
    dsimp only at a1
    omega
theorem e_done {L : List K} (hl : laceB L = true) {C : List Int} {k : Int} {D : Nat → Int × Int} (h : EInv L C k 0 D) : earK L C k = -1 := by
  unfold earK
  split
  · rename_i hk
    obtain ⟨p, rfl⟩ : ∃ p : Nat, k = (p : Int) := ⟨k.toNat, by omega⟩
    have hp : p < L.length := by omega
    have hm : metI L (p : Int) = bel L p := by unfold Sg.metI; rw [if_pos hk, Int.toNat_natCast]
    rw [Int.toNat_natCast]
    unfold Ch.earlierN
    rcases Ch.ear_spec L C p p with ⟨q, _⟩ | ⟨y, q1, q2, q3, q4⟩
    · exact q
    · unfold Ch.earN at q3
      rw [Bool.and_eq_true, Bool.and_eq_true] at q3
      obtain ⟨i, hi, _⟩ := h.all y (by omega) (by rw [hm]; exact q3.1) q3.2.1 (seals_of hl hp (by omega) q3.2.2)
      omega
  · rfl

end Cn
end Go.Proofs.YthdjfmndakeaiaaGreat

namespace Go.Proofs.YthdjfmndakeaiaaGreat
open Go.RowKit Go.Shelf
set_option maxRecDepth 100000
set_option linter.unusedVariables false
attribute [local go_sem] Oper.semAt_some
namespace Cn
open Kn (K okK)
open Bit (bit withB)
open Lc (at' RdK WordsOk laceB setB handsN roundS)
open Ch (leadK earN earI earlierN)
open Sl (sealsB sealN)
open Sg (isB bel metI)
open Fw (ltL Wt Holds WaitPost)

/-- how many wait -/
def lenAt (hp : Nat) (W : World) : Nat := match W.cell? ⟨hp, 0, none⟩ with | some (.slice _ n _) => n | _ => 0
theorem lenAt_eq {m0 r hp n : Nat} {W : World} {D : Nat → Int × Int} (h : Wt m0 r hp n W D) : lenAt hp W = n := by
  obtain ⟨_, g, cap, hh, _⟩ := h
  unfold lenAt
  rw [Fw.cell_of hh]

set_option maxHeartbeats 4000000 in
theorem earlier (g off cap : Nat) (L : List K) (C : List Int) (k : Int) (w : World) (hlc : laceB L = true) (hc : Rm.coinsB C = true) (hg : g < w.heap.size) (hr : RdK w (some ⟨g, off, none⟩) L) :
    Calls Tryz.prog 23 #[.slice (some ⟨g, off, none⟩) L.length cap, .agg #[.int .i64 (Ch.leadI C 0), .int .i64 (Ch.leadI C 1), .int .i64 (Ch.leadI C 2), .int .i64 (Ch.leadI C 3), .int .i64 (Ch.leadI C 4), .int .i64 (Ch.leadI C 5), .int .i64 (Ch.leadI C 6)], .int .i64 k] w fun e w' => e = .returned (.int .i64 (earK L C k)) ∧ Below w.heap.size w w' := by
  have h60 := ((Lc.lace_iff L).1 hlc).1
  have HBL : Hid (∀ X : World, Below w.heap.size w X → Calls Tryz.prog 45 #[.slice (some ⟨g, off, none⟩) L.length cap, .int .i64 k] X fun e w' => e = .returned (.int .i64 (metI L k)) ∧ Below X.heap.size X w') := fun X hX =>
    Sg.below g off cap L k X hlc (Nat.lt_of_lt_of_le hg hX.size) (hr.below hX)
  have HWO : Hid (∀ X : World, Below w.heap.size w X → Calls Tryz.prog 44 #[.slice (some ⟨g, off, none⟩) L.length cap, .agg #[.int .i64 (Ch.leadI C 0), .int .i64 (Ch.leadI C 1), .int .i64 (Ch.leadI C 2), .int .i64 (Ch.leadI C 3), .int .i64 (Ch.leadI C 4), .int .i64 (Ch.leadI C 5), .int .i64 (Ch.leadI C 6)], .int .i64 (metI L k)] X (WaitPost L C (metI L k) g X)) := fun X hX =>
    Fw.waitingOf g off cap L C (metI L k) X hlc hc (Nat.lt_of_lt_of_le hg hX.size) (hr.below hX) (met_bd h60 k).1 (met_bd h60 k).2 (met_in hlc k)
  have HSE : Hid (∀ (X : World) (x : Nat), Below w.heap.size w X → Calls Tryz.prog 48 #[.slice (some ⟨g, off, none⟩) L.length cap, .int .i64 k, .int .i64 (x : Int)] X fun e w' => e = .returned (.bool (sealsB L k (x : Int))) ∧ Below X.heap.size X w') := fun X x hX =>
    Sl.seals g off cap L k (x : Int) X hlc (Nat.lt_of_lt_of_le hg hX.size) (hr.below hX)
  have HLC : Hid (laceB L = true) := hlc
  obtain ⟨V0, hV0⟩ : ∃ V0, V0 = w.alloc (.cells #[.int .i64 (Ch.leadI C 0), .int .i64 (Ch.leadI C 1), .int .i64 (Ch.leadI C 2), .int .i64 (Ch.leadI C 3), .int .i64 (Ch.leadI C 4), .int .i64 (Ch.leadI C 5), .int .i64 (Ch.leadI C 6)] 44) := ⟨_, rfl⟩
  have HV0 : Hid (V0 = w.alloc (.cells #[.int .i64 (Ch.leadI C 0), .int .i64 (Ch.leadI C 1), .int .i64 (Ch.leadI C 2), .int .i64 (Ch.leadI C 3), .int .i64 (Ch.leadI C 4), .int .i64 (Ch.leadI C 5), .int .i64 (Ch.leadI C 6)] 44)) := hV0
  have HB0 : Hid (Below w.heap.size w V0) := by rw [hV0]; exact (Below.refl _ _).alloc (Nat.le_refl _) _
  have hs0 : w.heap.size < V0.heap.size := by rw [hV0]; simp
  have HR7 : Hid (Db.RowI V0 w.heap.size 7 (fun i => Ch.leadI C (i : Int))) := by rw [hV0]; exact Ch.rowI_seven w 44 (fun i => Ch.leadI C (i : Int))
  have HSB : Hid (∀ X : World, Below V0.heap.size V0 X → X.cell? ⟨w.heap.size, 0, none⟩ = some (.int .i64 (Ch.leadI C 0)) ∧ X.cell? ⟨w.heap.size, 1, none⟩ = some (.int .i64 (Ch.leadI C 1)) ∧ X.cell? ⟨w.heap.size, 2, none⟩ = some (.int .i64 (Ch.leadI C 2)) ∧ X.cell? ⟨w.heap.size, 3, none⟩ = some (.int .i64 (Ch.leadI C 3)) ∧ X.cell? ⟨w.heap.size, 4, none⟩ = some (.int .i64 (Ch.leadI C 4)) ∧ X.cell? ⟨w.heap.size, 5, none⟩ = some (.int .i64 (Ch.leadI C 5)) ∧ X.cell? ⟨w.heap.size, 6, none⟩ = some (.int .i64 (Ch.leadI C 6))) := fun X hX => by
    have f : ∀ i : Nat, i < 7 → X.cell? ⟨w.heap.size, i, none⟩ = some (.int .i64 (Ch.leadI C (i : Int))) := fun i hi => (hX.cell (p := ⟨w.heap.size, i, none⟩) hs0).trans (HR7.out.rd i hi)
    exact ⟨f 0 (by omega), f 1 (by omega), f 2 (by omega), f 3 (by omega), f 4 (by omega), f 5 (by omega), f 6 (by omega)⟩
  have HLOW : Hid (∀ X : World, Below V0.heap.size V0 X → Below w.heap.size w X) := fun X hX => HB0.out.trans (hX.mono HB0.out.size)
  clear hV0 hr hlc hc HR7
  generalize Ch.leadI C 0 = y0 at *
  generalize Ch.leadI C 1 = y1 at *
  generalize Ch.leadI C 2 = y2 at *
  generalize Ch.leadI C 3 = y3 at *
  generalize Ch.leadI C 4 = y4 at *
  generalize Ch.leadI C 5 = y5 at *
  generalize Ch.leadI C 6 = y6 at *
  go_enter Tryz.func23, Tryz.ntmps23
  go_wp2_with fail
  rw [← HV0.out]
  clear HV0
  generalize hbq : w.heap.size = b at *
  go_region_held3 (fun X => X.cell? ⟨b, 0, none⟩ = some (.int .i64 y0) ∧ X.cell? ⟨b, 1, none⟩ = some (.int .i64 y1) ∧ X.cell? ⟨b, 2, none⟩ = some (.int .i64 y2) ∧ X.cell? ⟨b, 3, none⟩ = some (.int .i64 y3) ∧ X.cell? ⟨b, 4, none⟩ = some (.int .i64 y4) ∧ X.cell? ⟨b, 5, none⟩ = some (.int .i64 y5) ∧ X.cell? ⟨b, 6, none⟩ = some (.int .i64 y6)) (first
      | exact HSB.out _ B1
      | exact HSB.out _ B2
      | exact HSB.out _ (Below.refl _ _).drew
      | exact HSB.out _ (Below.refl _ _)) (first
      | (go_at_call 45
         refine (HBL.out _ (HLOW.out _ (Below.refl _ _).drew)).mono ?_
         rintro e V1 ⟨rfl, b1⟩
         have B1 : Below V0.heap.size V0 V1 := Sl.kA b1)
      | (go_at_call 44
         refine (HWO.out _ (HLOW.out _ B1)).mono ?_
         rintro e V2 ⟨hp, m, D, rfl, hm, hw, hhe, hho, hb2⟩
         have B2 : Below V0.heap.size V0 V2 := B1.trans (hb2.mono B1.size)))
  have HBQ : Hid (w.heap.size = b) := hbq
  have hbs : b ≤ V0.heap.size := by rw [← hbq]; exact HB0.out.size
  have HB2 : Hid (Below b w V2) := HLOW.out _ B2
  clear hbq
  have hgm : g < V1.heap.size := Nat.lt_of_lt_of_le (Nat.lt_of_lt_of_le hg hbs) B1.size
  have hbm : b ≤ V1.heap.size := Nat.le_trans hbs B1.size
  have HW1 : Hid (Wt V1.heap.size g hp m V2 D) := hw
  have HI1 : Hid (EInv L C k m D) := e_start h60 hm hhe hho
  have HNX : Hid (∀ (m : Nat) (D : Nat → Int × Int) (A : World), m + 1 ≤ 1048576 → Wt V1.heap.size g hp (m + 1) A D → Below b w A → Calls Tryz.prog 47 #[.pointer (some ⟨hp, 0, none⟩)] A fun e w' => e = .returned (.agg #[.int .i64 (D 0).1, .int .i64 (D 0).2]) ∧ Wt V1.heap.size g hp m w' (Hp.popT ltL m D) ∧ Below b w w') := fun m D A hm hw hq =>
    Fw.next V1.heap.size g hp m hgm (fun V => Below b w V) (fun X Y q hb => q.trans (hb.mono hbm)) D A hm hw hq
  clear hw hhe hho hb2 b1 B1 B2 HBL HWO HSB HLOW HB0 hm hs0
  (try clear hHeld)
  go_wp2_with fail
  go_loopw [6] (fun _ wr => ∃ (m : Nat) (D : Nat → Int × Int), Hid (Wt V1.heap.size g hp m wr D) ∧ Hid (EInv L C k m D) ∧ Hid (Below b w wr)) (fun _ wr => lenAt hp wr)
  case atStart => exact ⟨m, D, HW1, HI1, HB2⟩
  case round =>
    obtain ⟨m, D, HW, HI, HB⟩ := hrel
    clear HW1 HI1 HB2
    have HLE : Hid (lenAt hp wr = m) := lenAt_eq HW.out
    obtain ⟨gw, cw, cv⟩ : ∃ gw cw, wr.cell? ⟨hp, 0, none⟩ = some (.slice (some ⟨gw, 0, none⟩) m cw) := by
      obtain ⟨_, gw, cw, hh, _⟩ := HW.out
      exact ⟨gw, cw, Fw.cell_of hh⟩
    cases m with
    | zero =>
      have HD : Hid (earK L C k = -1) := e_done HLC.out HI.out
      clear HI HW HLE HNX HSE HLC
      go_wp2_with (first | (go_at_call 46; refine (Fw.len _ _ _ _).mono ?_; rintro e w' ⟨rfl, rfl⟩))
      go_ret
      exact ⟨by rw [HD.out]; rfl, by rw [HBQ.out]; exact HB.out⟩
    | succ m =>
      obtain ⟨x, hx, hbx, hlx, ex⟩ := HI.out.el 0 (by omega)
      have hml : m + 1 ≤ 60 := HI.out.len
      have hnx := HNX.out m D wr (by omega) HW.out HB.out
      rw [ex] at hnx
      dsimp only at hnx
      have HSK : Hid (sealsB L k (x : Int) = false → EInv L C k m (Hp.popT ltL m D)) := e_skip HI.out ex
      have HTA : Hid (sealsB L k (x : Int) = true → earK L C k = (x : Int)) := e_take HLC.out HI.out hx hbx hlx ex
      have HSX : Hid (∀ X : World, Below b w X → Calls Tryz.prog 48 #[.slice (some ⟨g, off, none⟩) L.length cap, .int .i64 k, .int .i64 (x : Int)] X fun e w' => e = .returned (.bool (sealsB L k (x : Int))) ∧ Below X.heap.size X w') := fun X hX => HSE.out X x hX
      have hm0 : (0 : Int) < (m : Int) + 1 := by omega
      have hmc : ((m + 1 : Nat) : Int) = (m : Int) + 1 := by omega
      clear hlx hbx HI ex HNX HSE HW HB
      generalize (at' L x).round = kr at hnx
      have HAL : Hid (∀ w2 : World, Wt V1.heap.size g hp m w2 (Hp.popT ltL m D) → Below b w w2 → Wt V1.heap.size g hp m (w2.alloc (.cells #[.int .i64 x, .int .i64 kr] 78)) (Hp.popT ltL m D) ∧ Below b w (w2.alloc (.cells #[.int .i64 x, .int .i64 kr] 78))) := fun w2 h1 h2 => by
        have hlt := Fw.wt_lt h1
        exact ⟨Fw.wt_alloc h1 _, h2.alloc (by omega) _⟩
      have HST : Hid (∀ A B : World, Wt V1.heap.size g hp m A (Hp.popT ltL m D) ∧ Below b w A → Below A.heap.size A B → Wt V1.heap.size g hp m B (Hp.popT ltL m D) ∧ Below b w B) := fun A B q hb => by
        have hlt := Fw.wt_lt q.1
        exact ⟨Fw.wt_below q.1 hb, q.2.trans (hb.mono (by omega))⟩
      have HLN : Hid (∀ A : World, Wt V1.heap.size g hp m A (Hp.popT ltL m D) → lenAt hp A < lenAt hp wr) := fun A q => by rw [lenAt_eq q, HLE.out]; omega
      have HKC : Hid (∀ w2 w3 : World, Below (w2.alloc (.cells #[.int .i64 x, .int .i64 kr] 78)).heap.size (w2.alloc (.cells #[.int .i64 x, .int .i64 kr] 78)) w3 → w3.cell? ⟨w2.heap.size, 0, none⟩ = some (.int .i64 x)) := fun w2 w3 hb => (hb.cell (p := ⟨w2.heap.size, 0, none⟩) (by simp)).trans (by simp)
      cases hdd : sealsB L k (x : Int)
      · have HI2 : Hid (EInv L C k m (Hp.popT ltL m D)) := HSK.out hdd
        rw [hdd] at HSX
        clear HSK HTA HLE hdd HLC
        go_wp2_with (first | (go_at_call 46; refine (Fw.len _ _ _ _).mono ?_; rintro e wl ⟨rfl, rfl⟩) | (go_at_call 47; refine hnx.mono ?_; rintro e w2 ⟨rfl, hw2, hq2⟩; have HA : Hid _ := HAL.out w2 hw2 hq2) | (go_at_call 48; refine (HSX.out _ HA.out.2).mono ?_; rintro e w3 ⟨rfl, hb3⟩; have HR3 := HST.out _ _ HA.out hb3))
        go_roundw
        case rel => exact ⟨m, _, HR3.1, HI2, HR3.2⟩
        case measure => exact HLN.out _ HR3.1
      · have HE : Hid (earK L C k = (x : Int)) := HTA.out hdd
        rw [hdd] at HSX
        clear HSK HTA HLE hdd HLC
        go_wp2_with (first | (go_at_call 46; refine (Fw.len _ _ _ _).mono ?_; rintro e wl ⟨rfl, rfl⟩) | (go_at_call 47; refine hnx.mono ?_; rintro e w2 ⟨rfl, hw2, hq2⟩; have HA : Hid _ := HAL.out w2 hw2 hq2) | (go_at_call 48; refine (HSX.out _ HA.out.2).mono ?_; rintro e w3 ⟨rfl, hb3⟩; have HR3 := HST.out _ _ HA.out hb3; have ck := HKC.out _ _ hb3))
        go_ret
        exact ⟨by rw [HE.out]; rfl, by rw [HBQ.out]; exact HR3.2⟩

end Cn
end Go.Proofs.YthdjfmndakeaiaaGreat

namespace Go.Proofs.YthdjfmndakeaiaaGreat
open Go.RowKit
set_option maxRecDepth 100000
set_option linter.unusedVariables false
namespace Cn

/-- l, turned round at both ends, i numbers deep -/
def turn (l : List Int) (i : Nat) : List Int := (List.range l.length).map fun t => if t < i ∨ l.length ≤ t + i then l.getD (l.length - 1 - t) 0 else l.getD t 0
theorem turn_len (l : List Int) (i : Nat) : (turn l i).length = l.length := by simp [turn]
theorem turn_get (l : List Int) (i t : Nat) (h : t < l.length) : (turn l i)[t]? = some (if t < i ∨ l.length ≤ t + i then l.getD (l.length - 1 - t) 0 else l.getD t 0) := by simp [turn, h]
theorem turn_zero (l : List Int) : turn l 0 = l := by
  apply List.ext_getElem?
  intro t
  by_cases h : t < l.length
  · rw [turn_get l 0 t h, if_neg (by omega)]
    simp [List.getD, h]
  · rw [List.getElem?_eq_none (by rw [turn_len]; omega), List.getElem?_eq_none (by omega)]
theorem turn_end (l : List Int) (i : Nat) (hi : l.length ≤ i + i + 1) : turn l i = l.reverse := by
  apply List.ext_getElem?
  intro t
  by_cases h : t < l.length
  · rw [turn_get l i t h, List.getElem?_reverse h]
    split
    · simp [List.getD, show l.length - 1 - t < l.length by omega]
    · have : l.length - 1 - t = t := by omega
      rw [this]
      simp [List.getD, h]
  · rw [List.getElem?_eq_none (by rw [turn_len]; omega), List.getElem?_eq_none (by simp; omega)]
theorem turn_step (l : List Int) (i : Nat) (hi : i + i + 1 < l.length) : ((turn l i).set i ((turn l i).getD (l.length - 1 - i) 0)).set (l.length - 1 - i) ((turn l i).getD i 0) = turn l (i + 1) := by
  have e1 : (turn l i).getD i 0 = l.getD i 0 := by
    have := turn_get l i i (by omega)
    rw [if_neg (by omega)] at this
    simp [List.getD, this]
  have e2 : (turn l i).getD (l.length - 1 - i) 0 = l.getD (l.length - 1 - i) 0 := by
    have := turn_get l i (l.length - 1 - i) (by omega)
    rw [if_neg (by omega)] at this
    simp [List.getD, this]
  rw [e1, e2]
  apply List.ext_getElem?
  intro t
  by_cases h : t < l.length
  · rw [turn_get l (i + 1) t h, List.getElem?_set, List.getElem?_set]
    simp only [List.length_set, turn_len]
    by_cases h1 : l.length - 1 - i = t
    · rw [if_pos h1, if_pos (by omega), if_pos (by omega)]
      have : l.length - 1 - t = i := by omega
      rw [this]
    · rw [if_neg h1]
      by_cases h2 : i = t
      · rw [if_pos h2, if_pos (by omega), if_pos (by omega), h2]
      · rw [if_neg h2, turn_get l i t h]
        by_cases h3 : t < i ∨ l.length ≤ t + i
        · rw [if_pos h3, if_pos (by omega)]
        · rw [if_neg h3, if_neg (by omega)]
  · rw [List.getElem?_eq_none (by simp [turn_len]; omega), List.getElem?_eq_none (by rw [turn_len]; omega)]

theorem own_set {B g cap : Nat} {w : World} {l : List Int} (h : Memb.Own B w (some ⟨g, 0, none⟩) cap l) (j : Nat) (u : Int) : Memb.Own B (w.setCell ⟨g, j, none⟩ (.int .i64 u)) (some ⟨g, 0, none⟩) cap (l.set j u) := by
  have := (World.ownsRow.stored h j (.int .i64 u)).1
  unfold Memb.Own
  rw [List.length_set, List.map_set]
  exact this
theorem own_cell {B g cap : Nat} {w : World} {l : List Int} (h : Memb.Own B w (some ⟨g, 0, none⟩) cap l) (j : Nat) (hj : j < l.length) : w.cell? ⟨g, j, none⟩ = some (.int .i64 (l.getD j 0)) ∧ w.frozen? ⟨g, j, none⟩ = false := by
  refine ⟨(World.ownsRow.cellAt h j (by omega)).trans ?_, World.ownsRow.frozenAt h j⟩
  simp [List.getD, hj]

set_option maxHeartbeats 1600000 in
theorem reverse (B g cap : Nat) (l : List Int) (w : World) (hl : l.length ≤ 1048576) (hB : B ≤ g) (h : Memb.Own B w (some ⟨g, 0, none⟩) cap l) :
    Calls Tryz.prog 43 #[.slice (some ⟨g, 0, none⟩) l.length cap] w fun e w' => e = .returned (.tuple #[]) ∧ Memb.Own B w' (some ⟨g, 0, none⟩) cap l.reverse ∧ Below B w w' := by
  have H0 : Hid (Memb.Own B w (some ⟨g, 0, none⟩) cap (turn l 0)) := by show Memb.Own B w _ cap (turn l 0); rw [turn_zero]; exact h
  clear h
  go_enter Tryz.func43, Tryz.ntmps43
  go_wp2
  go_loopw [2, 3] (fun s2 s3 wr => ∃ i : Nat, i ≤ l.length ∧ s2 = .int .i64 i ∧ s3 = .int .i64 ((l.length : Int) - 1 - i) ∧ Hid (Memb.Own B wr (some ⟨g, 0, none⟩) cap (turn l i)) ∧ Hid (Below B w wr)) (fun s2 _ _ => l.length - (intOf s2).toNat)
  case atStart => exact ⟨0, Nat.zero_le _, rfl, by simp, H0, Below.refl _ _⟩
  case round =>
    obtain ⟨i, hi, rfl, rfl, HO, HB⟩ := hrel
    clear H0
    by_cases hlt : i + i + 1 < l.length
    · have hij : (i : Int) < (l.length : Int) - 1 - i := by omega
      obtain ⟨j, hj⟩ : ∃ j : Nat, j = l.length - 1 - i := ⟨_, rfl⟩
      have ej : (l.length : Int) - 1 - i = (j : Int) := by omega
      have hil : i < l.length := by omega
      have hjl : j < l.length := by omega
      have hii : (i : Int) < (l.length : Int) := by omega
      have hji : (j : Int) < (l.length : Int) := by omega
      have hne : ¬ i = j := by omega
      have hne' : ¬ j = i := by omega
      have HS : Hid (((turn l i).set i ((turn l i).getD j 0)).set j ((turn l i).getD i 0) = turn l (i + 1)) := by show _ = _; rw [hj]; exact turn_step l i hlt
      obtain ⟨ci, fi⟩ := own_cell HO.out i (by rw [turn_len]; omega)
      obtain ⟨cj, fj⟩ := own_cell HO.out j (by rw [turn_len]; omega)
      rw [ej]
      rw [ej] at hij
      generalize hx : (turn l i).getD i 0 = x at ci HS
      generalize hy : (turn l i).getD j 0 = y at cj HS
      have HEJ : Hid ((j : Int) - 1 = (l.length : Int) - 1 - ((i + 1 : Nat) : Int)) := by show _ = _; omega
      have HN : Hid (∀ m, Memb.Own B (((wr.setCell ⟨g, i, none⟩ (.int .i64 y)).setCell ⟨g, j, none⟩ (.int .i64 x)).drewN m) (some ⟨g, 0, none⟩) cap (turn l (i + 1)) ∧ Below B w (((wr.setCell ⟨g, i, none⟩ (.int .i64 y)).setCell ⟨g, j, none⟩ (.int .i64 x)).drewN m)) := fun m => by
        refine ⟨?_, ?_⟩
        · rw [← HS.out]; exact own_set (own_set HO.out i y) j x
        · have := (HB.out.setCell (p := ⟨g, i, none⟩) hB (.int .i64 y)).setCell (p := ⟨g, j, none⟩) hB (.int .i64 x)
          exact ⟨this.os, this.tape, this.output, this.size, this.block⟩
      clear hj hx hy HS HO HB
      go_wp2_with fail
      go_region
      all_goals (go_wp2)
      all_goals go_roundw
      case rel => exact ⟨i + 1, by omega, by go_num, by rw [← HEJ.out], (HN.out 1).1, (HN.out 1).2⟩
      case measure => simp [intOf]; omega
    · have hij : ¬ (i : Int) < (l.length : Int) - 1 - i := by omega
      have HE : Hid (turn l i = l.reverse) := turn_end l i (by omega)
      go_wp2
      go_end0
      exact ⟨rfl, by rw [← HE.out]; exact HO.out, HB.out⟩

set_option maxHeartbeats 800000 in
theorem index (ao : Option Addr) (cap : Nat) (l : List Int) (x : Int) (w : World) (hl : l.length ≤ 1048576) (h : Lst.Rd w ao l) :
    Calls Tryz.prog 54 #[.slice ao l.length cap, .int .i64 x] w fun e w' => (∃ z : Int, e = .returned (.int .i64 z) ∧ decide (0 ≤ z) = l.contains x) ∧ w = w' := by
  go_enter Tryz.func54, Tryz.ntmps54
  go_wp2
  go_loopw [8] (fun s8 wr => ∃ i : Nat, i ≤ l.length ∧ s8 = .int .i64 i ∧ Hid (∀ t, t < i → l.getD t 0 ≠ x) ∧ wr = w) (fun s8 _ => l.length - (intOf s8).toNat)
  case atStart => exact ⟨0, Nat.zero_le _, rfl, fun t ht => by omega, rfl⟩
  case round =>
    obtain ⟨i, hi, rfl, HN, rfl⟩ := hrel
    by_cases hlt : i < l.length
    · obtain ⟨g, rfl, hc⟩ : ∃ g, ao = some ⟨g, 0, none⟩ ∧ ∀ j, j < l.length → wr.cell? ⟨g, j, none⟩ = some (.int .i64 (l.getD j 0)) := by
        rcases h with h | h
        · rw [h] at hlt; simp at hlt
        · exact h
      have c := hc i hlt
      have hii : (i : Int) < (l.length : Int) := by omega
      by_cases he : x = l.getD i 0
      · have HC : Hid (l.contains x = true) := by
          show _ = _
          rw [List.contains_iff_mem, he]
          simp [List.getD, hlt]
        generalize l.getD i 0 = y at c he
        subst he
        clear hc h HN
        go_wp2
        go_ret
        exact ⟨⟨(i : Int), rfl, by rw [HC.out]; simp⟩, rfl⟩
      · have HN2 : Hid (∀ t, t < i + 1 → l.getD t 0 ≠ x) := fun t ht => by
          by_cases e : t = i
          · subst e; exact fun q => he q.symm
          · exact HN.out t (by omega)
        generalize l.getD i 0 = y at c he
        clear hc HN
        go_wp2
        go_roundw
        case rel => exact ⟨i + 1, by omega, by go_num, HN2, by first | trivial | rfl⟩
        case measure => simp [intOf]; omega
    · obtain rfl : i = l.length := by omega
      have HC : Hid (l.contains x = false) := by
        show _ = _
        rw [Bool.eq_false_iff, Ne, List.contains_iff_mem]
        intro hm
        obtain ⟨t, ht, e⟩ := List.getElem_of_mem hm
        exact HN.out t ht (by simp [List.getD, ht, e])
      clear h HN
      go_wp2
      go_ret
      exact ⟨⟨-1, rfl, by rw [HC.out]; rfl⟩, rfl⟩

set_option maxHeartbeats 400000 in
theorem contains (ao : Option Addr) (cap : Nat) (l : List Int) (x : Int) (w : World) (hl : l.length ≤ 1048576) (h : Lst.Rd w ao l) :
    Calls Tryz.prog 33 #[.slice ao l.length cap, .int .i64 x] w fun e w' => e = .returned (.bool (l.contains x)) ∧ w = w' := by
  have hx := index ao cap l x w hl h
  clear h
  go_enter Tryz.func33, Tryz.ntmps33
  go_wp2_with (go_at_call 54; refine hx.mono ?_; rintro e w' ⟨⟨z, rfl, hz⟩, rfl⟩; have HZ : Hid (decide (0 ≤ z) = l.contains x) := hz; clear hz)
  go_ret
  exact ⟨by rw [← HZ.out]; rfl, rfl⟩

end Cn
end Go.Proofs.YthdjfmndakeaiaaGreat

namespace Go.Proofs.YthdjfmndakeaiaaGreat
open Go.RowKit Go.Shelf
set_option maxRecDepth 100000
set_option linter.unusedVariables false
attribute [local go_sem] Oper.semAt_some
namespace Cn
open Kn (K okK)
open Lc (at' RdK WordsOk laceB)
open Ch (chainL earlierN)

theorem wp_scope_again {P : Program} {a : Act} {w : World} {Q : Exit → Act → World → Prop} {c rest : Code} (l : Nat) (J : Act → World → Prop) (μ : Act → World → Nat) (hf : findLabel c l = some (Code.skip.seq rest))
    (first : (∀ a w, J a w → rest.wp P (Exit.jump l J Q) a w) → c.wp P (Exit.jump l J Q) a w)
    (pass : ∀ a w, J a w → rest.wp P (Exit.jump l (fun a' w' => J a' w' ∧ μ a' w' < μ a w) Q) a w) : (Code.scope c).wp P Q a w := by
  refine wp_scope_jumps l J μ hf (first fun a w h => ?_) fun a w h => wp_seq (wp_skip (pass a w h))
  refine Code.wp_mono (fun e a' w' q => ?_) (pass a w h)
  cases e <;> first | exact q | exact ⟨q.1, q.2.1⟩

/-- what holds at every jump back -/
structure Back (L : List K) (C : List Int) (k : Nat) (w V0 : World) (kk : Nat) (fl : List Int) (v : Value) (W : World) : Prop where
  on : kk < L.length
  le : fl.length + kk ≤ k
  own : W.ownsRow V0.heap.size 2 1 v fl.length (fl.map (Value.int .i64))
  bel : Below V0.heap.size V0 W
  ch : chainL L C (kk : Int) ++ fl.reverse = chainL L C (k : Int)

def intAt : Value → Int | .int _ q => q | _ => 0

theorem earK_in (L : List K) (C : List Int) {k : Nat} (hk : k < L.length) : earK L C (k : Int) = earlierN L C k := by
  unfold earK
  rw [if_pos ⟨by omega, by omega⟩, Int.toNat_natCast]
/-- a step back -/
theorem back_step {L : List K} {C : List Int} {k kk e : Nat} {w V0 W W' : World} {fl : List Int} {v v' : Value} (h : Back L C k w V0 kk fl v W) (he : earlierN L C kk = (e : Int)) (ho : W'.ownsRow V0.heap.size 2 1 v' (fl ++ [(kk : Int)]).length ((fl ++ [(kk : Int)]).map (Value.int .i64))) (hb : Below V0.heap.size V0 W') : Back L C k w V0 e (fl ++ [(kk : Int)]) v' W' ∧ e < kk := by
  have hlt := Ch.earlier_lt L C kk
  have hc := h.ch
  have h1 := h.on
  have h2 := h.le
  refine ⟨⟨by omega, by simp; omega, ho, hb, ?_⟩, by omega⟩
  rw [Ch.chain_step, he, List.append_assoc] at hc
  rw [← hc]
  simp
theorem back_end {L : List K} {C : List Int} {k kk : Nat} {w V0 W : World} {fl : List Int} {v : Value} (h : Back L C k w V0 kk fl v W) (he : earlierN L C kk < 0) : (fl ++ [(kk : Int)]).reverse = chainL L C (k : Int) := by
  have hc := h.ch
  rw [Ch.chain_step, Ch.chain_neg L C he] at hc
  rw [← hc]
  simp
theorem own_lower {B B' : Nat} {w : World} {ao : Option Addr} {cap : Nat} {l : List Int} (h : Memb.Own B w ao cap l) (hB : B' ≤ B) : Memb.Own B' w ao cap l := by
  obtain ⟨h1, h2 | ⟨g, c, cur, e, hb, rest⟩⟩ := h
  · exact ⟨h1, .inl h2⟩
  · exact ⟨h1, .inr ⟨g, c, cur, e, Nat.le_trans hB hb, rest⟩⟩

set_option maxHeartbeats 4000000 in
theorem chain (g off cap : Nat) (L : List K) (C : List Int) (k : Nat) (w : World) (hlc : laceB L = true) (hc : Rm.coinsB C = true) (hg : g < w.heap.size) (hr : RdK w (some ⟨g, off, none⟩) L) (hk : k < L.length) :
    Calls Tryz.prog 22 #[.slice (some ⟨g, off, none⟩) L.length cap, .agg #[.int .i64 (Ch.leadI C 0), .int .i64 (Ch.leadI C 1), .int .i64 (Ch.leadI C 2), .int .i64 (Ch.leadI C 3), .int .i64 (Ch.leadI C 4), .int .i64 (Ch.leadI C 5), .int .i64 (Ch.leadI C 6)], .int .i64 (k : Int)] w fun e w' => ∃ ao ca, e = .returned (.slice ao (chainL L C (k : Int)).length ca) ∧ Memb.Own w.heap.size w' ao ca (chainL L C (k : Int)) ∧ Below w.heap.size w w' := by
  obtain ⟨i0, hi, hz0, hz1, hz2⟩ := info_parts Memb.info2
  have h60 := ((Lc.lace_iff L).1 hlc).1
  have HEA : Hid (∀ (X : World) (x : Nat), x < L.length → Below w.heap.size w X → Calls Tryz.prog 23 #[.slice (some ⟨g, off, none⟩) L.length cap, .agg #[.int .i64 (Ch.leadI C 0), .int .i64 (Ch.leadI C 1), .int .i64 (Ch.leadI C 2), .int .i64 (Ch.leadI C 3), .int .i64 (Ch.leadI C 4), .int .i64 (Ch.leadI C 5), .int .i64 (Ch.leadI C 6)], .int .i64 (x : Int)] X fun e w' => e = .returned (.int .i64 (earlierN L C x)) ∧ Below X.heap.size X w') := fun X x hx hX => by
    have := earlier g off cap L C (x : Int) X hlc hc (Nat.lt_of_lt_of_le hg hX.size) (hr.below hX)
    rw [earK_in L C hx] at this
    exact this
  obtain ⟨V0, hV0⟩ : ∃ V0, V0 = w.alloc (.cells #[.int .i64 (Ch.leadI C 0), .int .i64 (Ch.leadI C 1), .int .i64 (Ch.leadI C 2), .int .i64 (Ch.leadI C 3), .int .i64 (Ch.leadI C 4), .int .i64 (Ch.leadI C 5), .int .i64 (Ch.leadI C 6)] 44) := ⟨_, rfl⟩
  have HV0 : Hid (V0 = w.alloc (.cells #[.int .i64 (Ch.leadI C 0), .int .i64 (Ch.leadI C 1), .int .i64 (Ch.leadI C 2), .int .i64 (Ch.leadI C 3), .int .i64 (Ch.leadI C 4), .int .i64 (Ch.leadI C 5), .int .i64 (Ch.leadI C 6)] 44)) := hV0
  have HB0 : Hid (Below w.heap.size w V0) := by rw [hV0]; exact (Below.refl _ _).alloc (Nat.le_refl _) _
  have hs0 : V0.heap.size = w.heap.size + 1 := by rw [hV0]; simp
  have HR7 : Hid (Db.RowI V0 w.heap.size 7 (fun i => Ch.leadI C (i : Int))) := by rw [hV0]; exact Ch.rowI_seven w 44 (fun i => Ch.leadI C (i : Int))
  have HSB : Hid (∀ X : World, Below V0.heap.size V0 X → X.cell? ⟨w.heap.size, 0, none⟩ = some (.int .i64 (Ch.leadI C 0)) ∧ X.cell? ⟨w.heap.size, 1, none⟩ = some (.int .i64 (Ch.leadI C 1)) ∧ X.cell? ⟨w.heap.size, 2, none⟩ = some (.int .i64 (Ch.leadI C 2)) ∧ X.cell? ⟨w.heap.size, 3, none⟩ = some (.int .i64 (Ch.leadI C 3)) ∧ X.cell? ⟨w.heap.size, 4, none⟩ = some (.int .i64 (Ch.leadI C 4)) ∧ X.cell? ⟨w.heap.size, 5, none⟩ = some (.int .i64 (Ch.leadI C 5)) ∧ X.cell? ⟨w.heap.size, 6, none⟩ = some (.int .i64 (Ch.leadI C 6))) := fun X hX => by
    have f : ∀ i : Nat, i < 7 → X.cell? ⟨w.heap.size, i, none⟩ = some (.int .i64 (Ch.leadI C (i : Int))) := fun i hi => (hX.cell (p := ⟨w.heap.size, i, none⟩) (by show w.heap.size < V0.heap.size; omega)).trans (HR7.out.rd i hi)
    exact ⟨f 0 (by omega), f 1 (by omega), f 2 (by omega), f 3 (by omega), f 4 (by omega), f 5 (by omega), f 6 (by omega)⟩
  have HLOW : Hid (∀ X : World, Below V0.heap.size V0 X → Below w.heap.size w X) := fun X hX => HB0.out.trans (hX.mono HB0.out.size)
  have HST : Hid (Back L C k w V0 k [] (.slice (some ⟨V0.heap.size, 0, none⟩) 0 0) (V0.alloc (.cells #[] 2))) := by
    refine ⟨hk, by simp, ?_, (Below.refl _ _).alloc (Nat.le_refl _) _, by simp⟩
    exact Memb.own_empty V0
  have HS0 : Hid (V0.heap.size = w.heap.size + 1) := hs0
  clear hV0 hr hlc hc HR7 hs0
  generalize Ch.leadI C 0 = y0 at *
  generalize Ch.leadI C 1 = y1 at *
  generalize Ch.leadI C 2 = y2 at *
  generalize Ch.leadI C 3 = y3 at *
  generalize Ch.leadI C 4 = y4 at *
  generalize Ch.leadI C 5 = y5 at *
  generalize Ch.leadI C 6 = y6 at *
  go_enter Tryz.func22, Tryz.ntmps22
  go_wp2_with fail
  rw [← HV0.out]
  clear HV0
  refine wp_scope_again 0 (fun a' w' => ∃ (kk : Nat) (fl : List Int) (v u8 u9 u10 u11 u12 u13 u14 u15 u16 u17 u18 u19 u20 u21 : Value), a' = { tmps := #[.slice (some ⟨g, off, none⟩) L.length cap, .agg #[.int .i64 y0, .int .i64 y1, .int .i64 y2, .int .i64 y3, .int .i64 y4, .int .i64 y5, .int .i64 y6], .int .i64 (kk : Int), undef, .pointer (some ⟨w.heap.size, 0, none⟩), undef, .slice none 0 0, v, u8, u9, u10, u11, u12, u13, u14, u15, u16, u17, u18, u19, u20, u21], defers := [] } ∧ Hid (Back L C k w V0 kk fl v w')) (fun a' _ => (intAt (a'.tmps.getD 2 undef)).toNat) rfl ?_ ?_
  · intro HP
    go_wp2_with fail
    go_step3
    rename_i hK
    refine hK _ _ (HP _ _ ⟨k, [], _, _, _, _, _, _, _, _, _, _, _, _, _, _, _, rfl, HST⟩)
  · rintro a' w' ⟨kk, fl, v, u8, u9, u10, u11, u12, u13, u14, u15, u16, u17, u18, u19, u20, u21, rfl, HBK⟩
    clear HST
    have hown := HBK.out.own
    have hkk := HBK.out.on
    have hle := HBK.out.le
    have hBS : V0.heap.size ≤ w'.heap.size := HBK.out.bel.size
    have HBW : Hid (Below V0.heap.size V0 w') := HBK.out.bel
    go_wp2_with (at_builtin; refine wpList_append_own _ rfl _ _ 25 rfl V0.heap.size 2 i0 (.int .i64 0) 1 8 Tryz.underlying25 hi hz0 hz1 hz2 rfl (by decide) _ _ _ rfl (hown.alloc _) ⟨w'.heap.size, 0, none⟩ 1 1 [.int .i64 (kk : Int)] rfl rfl ?c1 ?c2 ?c3 ?c4 ?c5 ?_)
    case c1 =>
      intro j u hj
      match j, hj with
      | 0, hj => simp at hj; subst hj; simp [Addr.add]
    case c2 => intro u hu; simp at hu; subst hu; rfl
    case c3 => unfold maxLen; omega
    case c4 => omega
    case c5 => simp; omega
    intro v' w1 hown' hgrow _
    have R := Memb.rel_put (l' := fl ++ [(kk : Int)]) rfl hBS hown HBW.out hown' hgrow
    have HR : Hid _ := R
    clear hown' hgrow hown R
    obtain ⟨c0, c1, c2, c3, c4, c5, c6⟩ := HSB.out w1 HR.out.2.1
    have hea := HEA.out w1 kk hkk (HLOW.out w1 HR.out.2.1)
    rcases Ch.ear_spec L C kk kk with ⟨he, _⟩ | ⟨e, he, hek, _⟩
    · have HE : Hid (earlierN L C kk = -1) := he
      have HEND : Hid ((fl ++ [(kk : Int)]).reverse = chainL L C (k : Int)) := back_end HBK.out (by rw [HE.out]; omega)
      rw [HE.out] at hea
      clear he
      obtain ⟨ao, ca, rfl, ho⟩ := Memb.own_shape HR.out.1
      obtain ⟨g2, rfl, hg2, _⟩ := Lst.own_block ho (by simp)
      have hl2 : (fl ++ [(kk : Int)]).length ≤ 1048576 := by simp; omega
      have HB1 : Hid (Below V0.heap.size V0 w1) := HR.out.2.1
      have HRV : Hid (∀ W : World, Below w1.heap.size w1 W → Calls Tryz.prog 43 #[.slice (some ⟨g2, 0, none⟩) (fl ++ [(kk : Int)]).length ca] W fun e w' => e = .returned (.tuple #[]) ∧ Memb.Own V0.heap.size w' (some ⟨g2, 0, none⟩) ca (fl ++ [(kk : Int)]).reverse ∧ Below V0.heap.size W w') := fun W hW => reverse V0.heap.size g2 ca _ W hl2 hg2 (Lst.own_below ho hW)
      have HLN : Hid ((fl ++ [(kk : Int)]).length = (chainL L C (k : Int)).length) := by show _ = _; rw [← HEND.out, List.length_reverse]
      rw [HEND.out] at HRV
      generalize (fl ++ [(kk : Int)]).length = n2 at hl2 HRV HLN ⊢
      clear HEND HR ho HBK HBW
      go_wp2_with (first | (go_at_call 23; refine hea.mono ?_; rintro e w2 ⟨rfl, hb2⟩) | (go_at_call 43; refine (HRV.out _ hb2).mono ?_; rintro e w3 ⟨rfl, ho3, hb3⟩))
      simp only [Exit.jump]
      go_ret
      refine ⟨some ⟨g2, 0, none⟩, ca, by rw [← HLN.out]; rfl, own_lower ho3 HB0.out.size, ?_⟩
      exact HLOW.out _ ((HB1.out.trans (hb2.mono HB1.out.size)).trans hb3)
    · have HE : Hid (earlierN L C kk = (e : Int)) := he
      rw [HE.out] at hea
      clear he
      have he0 : (0 : Int) ≤ (e : Int) := by omega
      have HNX : Hid (∀ W : World, Below w1.heap.size w1 W → Back L C k w V0 e (fl ++ [(kk : Int)]) v' W) := fun W hW => by
        obtain ⟨ao, ca, rfl, ho⟩ := Memb.own_shape HR.out.1
        exact (back_step HBK.out HE.out (Lst.own_below ho hW) (HR.out.2.1.trans (hW.mono HR.out.2.2))).1
      go_wp2_with (first | (go_at_call 23; refine hea.mono ?_; rintro e2 w2 ⟨rfl, hb2⟩))
      go_step3
      refine ⟨rfl, ⟨e, fl ++ [(kk : Int)], v', _, _, _, _, _, _, _, _, _, _, _, _, _, _, rfl, HNX.out _ hb2⟩, ?_⟩
      simp [intAt]
      omega

end Cn
end Go.Proofs.YthdjfmndakeaiaaGreat

namespace Go.Proofs.YthdjfmndakeaiaaGreat
open Go.RowKit Go.Shelf
set_option maxRecDepth 100000
set_option linter.unusedVariables false
namespace Fw
open Kn (K okK)
open Bit (bit withB)
open Lc (at' RdK WordsOk laceB setB handsN roundS)

/-- how ledLace ends -/
def LedLace (L : List K) (C : List Int) (w : World) (e : Ending) (w' : World) : Prop :=
  (laceB L = true ∧ Rm.coinsB C = true ∧ ∃ g, e = .returned (.tuple #[.slice (some ⟨g, 0, none⟩) L.length L.length, .agg #[.int .i64 (Ch.leadI C 0), .int .i64 (Ch.leadI C 1), .int .i64 (Ch.leadI C 2), .int .i64 (Ch.leadI C 3), .int .i64 (Ch.leadI C 4), .int .i64 (Ch.leadI C 5), .int .i64 (Ch.leadI C 6)], .bool true]) ∧ g < w'.heap.size ∧ RdK w' (some ⟨g, 0, none⟩) L ∧ Below w.heap.size w w') ∨
  ((laceB L && Rm.coinsB C) = false ∧ ∃ (v : Value) (y0 y1 y2 y3 y4 y5 y6 : Int), e = .returned (.tuple #[v, .agg #[.int .i64 y0, .int .i64 y1, .int .i64 y2, .int .i64 y3, .int .i64 y4, .int .i64 y5, .int .i64 y6], .bool false]) ∧ Below w.heap.size w w')

/-- the two arrays: the answer's (block b) and the one that was laid (block c) -/
theorem two7 {W : World} {b : Nat} (hb : Db.RowI W b 7 (fun _ => 0)) (f : Nat → Int) : ∃ W1, W1 = W.alloc (.cells #[.int .i64 (f 0), .int .i64 (f 1), .int .i64 (f 2), .int .i64 (f 3), .int .i64 (f 4), .int .i64 (f 5), .int .i64 (f 6)] 44) ∧ Db.RowI W1 b 7 (fun _ => 0) ∧ Db.RowI W1 W.heap.size 7 f ∧ Below W.heap.size W W1 ∧ W.heap.size ≠ b :=
  ⟨_, rfl, Nd.rowI_alloc hb _, Ch.rowI_seven W 44 f, (Below.refl _ _).alloc (Nat.le_refl _) _, by have := hb.lt; omega⟩

theorem rowI_kept {W W' : World} {b : Nat} {f : Nat → Int} (h : Db.RowI W b 7 f) (hb : Below W.heap.size W W') : Db.RowI W' b 7 f :=
  ⟨Nat.lt_of_lt_of_le h.lt hb.size, fun i hi => (hb.cell (p := ⟨b, i, none⟩) h.lt).trans (h.rd i hi), fun i hi => (hb.frozen (p := ⟨b, i, none⟩) h.lt).trans (h.fr i hi)⟩

theorem cell_put7 (W : World) (b : Nat) (x0 x1 x2 x3 x4 x5 x6 : Int) (p : Addr) (hp : p.block ≠ b) : (((((((W.setCell ⟨b, 0, none⟩ (.int .i64 x0)).setCell ⟨b, 1, none⟩ (.int .i64 x1)).setCell ⟨b, 2, none⟩ (.int .i64 x2)).setCell ⟨b, 3, none⟩ (.int .i64 x3)).setCell ⟨b, 4, none⟩ (.int .i64 x4)).setCell ⟨b, 5, none⟩ (.int .i64 x5)).setCell ⟨b, 6, none⟩ (.int .i64 x6)).cell? p = W.cell? p := by
  refine World.cell?_of_block ?_
  rw [Below.heap_setCell _ ⟨b, 6, none⟩ _ _ hp, Below.heap_setCell _ ⟨b, 5, none⟩ _ _ hp, Below.heap_setCell _ ⟨b, 4, none⟩ _ _ hp, Below.heap_setCell _ ⟨b, 3, none⟩ _ _ hp, Below.heap_setCell _ ⟨b, 2, none⟩ _ _ hp, Below.heap_setCell _ ⟨b, 1, none⟩ _ _ hp, Below.heap_setCell _ ⟨b, 0, none⟩ _ _ hp]
/-- a lace lies where it lay, whatever is laid into a block of numbers -/
theorem rdK_put7 {W : World} {b g : Nat} {L : List K} (hb : Db.RowI W b 7 (fun _ => 0)) (h : RdK W (some ⟨g, 0, none⟩) L) (x0 x1 x2 x3 x4 x5 x6 : Int) : RdK (((((((W.setCell ⟨b, 0, none⟩ (.int .i64 x0)).setCell ⟨b, 1, none⟩ (.int .i64 x1)).setCell ⟨b, 2, none⟩ (.int .i64 x2)).setCell ⟨b, 3, none⟩ (.int .i64 x3)).setCell ⟨b, 4, none⟩ (.int .i64 x4)).setCell ⟨b, 5, none⟩ (.int .i64 x5)).setCell ⟨b, 6, none⟩ (.int .i64 x6)) (some ⟨g, 0, none⟩) L := by
  by_cases hL : 0 < L.length
  · obtain ⟨hg, _, _, _, c3⟩ := h.on 0 hL
    have hne : g ≠ b := fun e => by
      subst e
      have := hb.rd 3 (by omega)
      rw [show 0 + 0 * 4 + 3 = 3 from rfl, this] at c3
      cases c3
    refine .inr ⟨g, 0, rfl, by simpa using hg, fun i hi => ?_⟩
    obtain ⟨_, d0, d1, d2, d3⟩ := h.on i hi
    exact ⟨(cell_put7 W b x0 x1 x2 x3 x4 x5 x6 _ hne).trans d0, (cell_put7 W b x0 x1 x2 x3 x4 x5 x6 _ hne).trans d1, (cell_put7 W b x0 x1 x2 x3 x4 x5 x6 _ hne).trans d2, (cell_put7 W b x0 x1 x2 x3 x4 x5 x6 _ hne).trans d3⟩
  · exact .inl (List.length_eq_zero_iff.1 (by omega))

set_option maxHeartbeats 3200000 in
theorem ledLace (g off cap : Nat) (L : List K) (ao : Option Addr) (cc : Nat) (C : List Int) (w : World) (hlen : L.length ≤ 1099511627776) (hw : WordsOk L) (hr : RdK w (some ⟨g, off, none⟩) L) (hl : C.length ≤ 1048576) (hrd : Lst.Rd w ao C) (hao : ∀ c, ao = some ⟨c, 0, none⟩ → c < w.heap.size) :
    Calls Tryz.prog 19 #[.slice (some ⟨g, off, none⟩) L.length cap, .slice ao C.length cc] w (LedLace L C w) := by
  have HZ : Hid (Db.RowI (w.alloc (.cells #[.int .i64 0, .int .i64 0, .int .i64 0, .int .i64 0, .int .i64 0, .int .i64 0, .int .i64 0] 44)) w.heap.size 7 (fun _ => 0)) := Ch.rowI_seven w 44 (fun _ => 0)
  have HBZ : Hid (Below w.heap.size w (w.alloc (.cells #[.int .i64 0, .int .i64 0, .int .i64 0, .int .i64 0, .int .i64 0, .int .i64 0, .int .i64 0] 44))) := (Below.refl _ _).alloc (Nat.le_refl _) _
  have hrZ := hr.below HBZ.out
  have hrdZ := Ch.rd_low hrd hao HBZ.out
  have haoZ : ∀ c, ao = some ⟨c, 0, none⟩ → c < (w.alloc (.cells #[.int .i64 0, .int .i64 0, .int .i64 0, .int .i64 0, .int .i64 0, .int .i64 0, .int .i64 0] 44)).heap.size := fun c e => Nat.lt_of_lt_of_le (hao c e) HBZ.out.size
  clear hr hrd hao
  go_enter Tryz.func19, Tryz.ntmps19
  go_wp2_with fail
  generalize w.alloc (.cells #[.int .i64 0, .int .i64 0, .int .i64 0, .int .i64 0, .int .i64 0, .int .i64 0, .int .i64 0] 44) = wz at HZ HBZ hrZ hrdZ haoZ ⊢
  generalize hbb : w.heap.size = b at *
  have HBB : Hid (b = w.heap.size) := hbb.symm
  clear hbb
  refine (Lc.laceOf g off cap L _ hlen hw hrZ).mono ?_
  intro e w1 hpost
  obtain ⟨B0, v0, g', HL0, hb1, rfl⟩ : ∃ (B0 : Bool) (v0 : Value) (g' : Nat), Hid (B0 = laceB L ∧ (B0 = true → v0 = .slice (some ⟨g', 0, none⟩) L.length L.length ∧ g' < w1.heap.size ∧ RdK w1 (some ⟨g', 0, none⟩) L)) ∧ Below wz.heap.size wz w1 ∧ e = .returned (.tuple #[v0, .bool B0]) := by
    rcases hpost with ⟨h1, g', rfl, h2, h3, h4⟩ | ⟨h1, rfl, h4⟩
    · exact ⟨true, _, g', ⟨h1.symm, fun _ => ⟨rfl, h2, h3⟩⟩, h4, rfl⟩
    · exact ⟨false, _, 0, ⟨h1.symm, fun h => by cases h⟩, h4, rfl⟩
  have HZ1 : Hid (Db.RowI w1 b 7 (fun _ => 0)) := rowI_kept HZ.out hb1
  have HB1 : Hid (Below b w w1) := HBZ.out.trans (hb1.mono (Nat.le_of_lt HZ.out.lt))
  have hrd1 := Ch.rd_low hrdZ haoZ hb1
  have hao1 : ∀ c, ao = some ⟨c, 0, none⟩ → c < w1.heap.size := fun c e => Nat.lt_of_lt_of_le (haoZ c e) hb1.size
  clear hpost HZ hrZ hrdZ haoZ HBZ hb1
  go_wp2_with fail
  refine (Ch.leadersOf ao cc C _ hl hrd1 hao1).mono ?_
  intro e w2 hpost
  obtain ⟨B1, f, HL1, hb2, rfl⟩ : ∃ (B1 : Bool) (f : Nat → Int), Hid (B1 = Rm.coinsB C ∧ (B1 = true → ∀ i, f i = Ch.leadI C (i : Int))) ∧ Below w1.heap.size w1 w2 ∧ e = .returned (.tuple #[.agg #[.int .i64 (f 0), .int .i64 (f 1), .int .i64 (f 2), .int .i64 (f 3), .int .i64 (f 4), .int .i64 (f 5), .int .i64 (f 6)], .bool B1]) := by
    rcases hpost with ⟨h1, rfl, h4⟩ | ⟨h1, rfl, h4⟩
    · exact ⟨true, fun i => Ch.leadI C (i : Int), ⟨h1.symm, fun _ _ => rfl⟩, h4, rfl⟩
    · exact ⟨false, fun _ => 0, ⟨h1.symm, fun h => by cases h⟩, h4, rfl⟩
  have HZ2 := rowI_kept HZ1.out hb2
  have HB2 : Hid (Below b w w2) := HB1.out.trans (hb2.mono (by have := HZ1.out.lt; omega))
  have HR2 : Hid (B0 = true → v0 = .slice (some ⟨g', 0, none⟩) L.length L.length ∧ g' < w2.heap.size ∧ RdK w2 (some ⟨g', 0, none⟩) L) := fun h => by
    obtain ⟨q1, q2, q3⟩ := HL0.out.2 h
    exact ⟨q1, Nat.lt_of_lt_of_le q2 hb2.size, q3.below hb2⟩
  obtain ⟨W3, hW3, k1, k2, k3, k4⟩ := two7 HZ2 f
  have HB3 : Hid (Below b w W3) := HB2.out.trans (k3.mono (by have := HZ2.lt; omega))
  have HR3 : Hid (B0 = true → v0 = .slice (some ⟨g', 0, none⟩) L.length L.length ∧ g' < W3.heap.size ∧ RdK W3 (some ⟨g', 0, none⟩) L) := fun h => by
    obtain ⟨q1, q2, q3⟩ := HR2.out h
    exact ⟨q1, Nat.lt_of_lt_of_le q2 k3.size, q3.below k3⟩
  obtain ⟨W7, hW7, m0, m1, m2, m3, m4, m5, m6, _, hB7⟩ := Ch.put7 k1 b (Nat.le_refl _) HB3.out (f 0) (f 1) (f 2) (f 3) (f 4) (f 5) (f 6)
  have HE : Hid (LedLace L C w (.returned (.tuple #[v0, .agg #[.int .i64 (f 0), .int .i64 (f 1), .int .i64 (f 2), .int .i64 (f 3), .int .i64 (f 4), .int .i64 (f 5), .int .i64 (f 6)], .bool (B0 && B1)])) W7.drew) := by
    show LedLace _ _ _ _ _
    have hbw : b = w.heap.size := HBB.out
    cases hb0 : B0
    · exact .inr ⟨by rw [← HL0.out.1, hb0]; rfl, v0, _, _, _, _, _, _, _, rfl, by rw [← hbw]; exact hB7.drew⟩
    · cases hb1 : B1
      · exact .inr ⟨by rw [← HL1.out.1, hb1]; simp, v0, _, _, _, _, _, _, _, rfl, by rw [← hbw]; exact hB7.drew⟩
      · obtain ⟨q1, q2, q3⟩ := HR3.out hb0
        have hf := HL1.out.2 hb1
        refine .inl ⟨by rw [← HL0.out.1, hb0], by rw [← HL1.out.1, hb1], g', ?_, ?_, ?_, by rw [← hbw]; exact hB7.drew⟩
        · rw [q1, hf 0, hf 1, hf 2, hf 3, hf 4, hf 5, hf 6]; rfl
        · rw [hW7]; simpa using q2
        · have := rdK_put7 k1 q3 (f 0) (f 1) (f 2) (f 3) (f 4) (f 5) (f 6)
          rw [← hW7] at this
          rcases this with h | ⟨a, o, e1, e2, e3⟩
          · exact .inl h
          · exact .inr ⟨a, o, e1, e2, fun i hi => ⟨(e3 i hi).c0, (e3 i hi).c1, (e3 i hi).c2, (e3 i hi).c3⟩⟩
  have p0 := k2.rd 0 (by omega)
  have p1 := k2.rd 1 (by omega)
  have p2 := k2.rd 2 (by omega)
  have p3 := k2.rd 3 (by omega)
  have p4 := k2.rd 4 (by omega)
  have p5 := k2.rd 5 (by omega)
  have p6 := k2.rd 6 (by omega)
  have q0 := k1.fr 0 (by omega)
  have q1 := k1.fr 1 (by omega)
  have q2 := k1.fr 2 (by omega)
  have q3 := k1.fr 3 (by omega)
  have q4 := k1.fr 4 (by omega)
  have q5 := k1.fr 5 (by omega)
  have q6 := k1.fr 6 (by omega)
  have r0 := k1.rd 0 (by omega)
  have r1 := k1.rd 1 (by omega)
  have r2 := k1.rd 2 (by omega)
  have r3 := k1.rd 3 (by omega)
  have r4 := k1.rd 4 (by omega)
  have r5 := k1.rd 5 (by omega)
  have r6 := k1.rd 6 (by omega)
  have HW3 : Hid (W3 = _) := hW3
  have HW7 : Hid (W7 = _) := hW7
  clear HL0 HL1 HR2 HR3 HB1 HB2 HB3 HZ1 HZ2 hb2 hrd1 hao1 hpost k1 k2 k3 hB7 hW3 hW7
  go_wp2_with fail
  rw [← HW3.out]
  cases B0 <;> cases B1
  all_goals go_region
  all_goals go_wp2
  all_goals rw [← HW7.out]
  · refine bodyPost_ret (v := .tuple #[v0, .agg #[.int .i64 (f 0), .int .i64 (f 1), .int .i64 (f 2), .int .i64 (f 3), .int .i64 (f 4), .int .i64 (f 5), .int .i64 (f 6)], .bool false]) (by simp [results, Tryz.f19, go_sem, m0, m1, m2, m3, m4, m5, m6]) rfl ?_
    exact HE.out
  · refine bodyPost_ret (v := .tuple #[v0, .agg #[.int .i64 (f 0), .int .i64 (f 1), .int .i64 (f 2), .int .i64 (f 3), .int .i64 (f 4), .int .i64 (f 5), .int .i64 (f 6)], .bool false]) (by simp [results, Tryz.f19, go_sem, m0, m1, m2, m3, m4, m5, m6]) rfl ?_
    exact HE.out
  · refine bodyPost_ret (v := .tuple #[v0, .agg #[.int .i64 (f 0), .int .i64 (f 1), .int .i64 (f 2), .int .i64 (f 3), .int .i64 (f 4), .int .i64 (f 5), .int .i64 (f 6)], .bool false]) (by simp [results, Tryz.f19, go_sem, m0, m1, m2, m3, m4, m5, m6]) rfl ?_
    exact HE.out
  · refine bodyPost_ret (v := .tuple #[v0, .agg #[.int .i64 (f 0), .int .i64 (f 1), .int .i64 (f 2), .int .i64 (f 3), .int .i64 (f 4), .int .i64 (f 5), .int .i64 (f 6)], .bool true]) (by simp [results, Tryz.f19, go_sem, m0, m1, m2, m3, m4, m5, m6]) rfl ?_
    exact HE.out

end Fw
end Go.Proofs.YthdjfmndakeaiaaGreat

namespace Go.Proofs.YthdjfmndakeaiaaGreat
open Go.RowKit Go.Shelf
set_option maxRecDepth 100000
set_option linter.unusedVariables false
attribute [local go_sem] Oper.semAt_some
namespace Cn
open Kn (K okK)
open Lc (at' RdK WordsOk laceB)
open Ch (chainL earlierN earlierI chainI onChainB onB)
open Sg (isB)
open Fw (ledLace)

theorem on_no {L : List K} {C : List Int} (h : (laceB L && Rm.coinsB C) = false) (k : Int) : onB L C k = false := by
  unfold Ch.onB Sg.isB
  cases h1 : laceB L
  · simp
  · rw [h1, Bool.true_and] at h; rw [h]; simp
theorem on_yes {L : List K} {C : List Int} (hl : laceB L = true) (hc : Rm.coinsB C = true) (k : Int) : onB L C k = (decide (0 ≤ k) && decide (k < (L.length : Int))) := by
  unfold Ch.onB
  rw [Db.isB_lace hl, hc, Bool.and_true]
theorem earK_is {L : List K} {C : List Int} (hl : laceB L = true) (hc : Rm.coinsB C = true) (k : Int) : earK L C k = earlierI L C k := by
  unfold earK Ch.earlierI
  rw [on_yes hl hc]
  by_cases h : 0 ≤ k ∧ k < (L.length : Int)
  · rw [if_pos h, if_pos (by simp [h])]
  · rw [if_neg h, if_neg (by simp; omega)]

set_option maxHeartbeats 1600000 in
theorem implEarlier (g off cap : Nat) (L : List K) (ao : Option Addr) (cc : Nat) (C : List Int) (k : Int) (w : World) (hlen : L.length ≤ 1099511627776) (hw : WordsOk L) (hr : RdK w (some ⟨g, off, none⟩) L) (hl : C.length ≤ 1048576) (hrd : Lst.Rd w ao C) (hao : ∀ c, ao = some ⟨c, 0, none⟩ → c < w.heap.size) :
    Calls Tryz.prog 7 #[.slice (some ⟨g, off, none⟩) L.length cap, .slice ao C.length cc, .int .i64 k] w fun e w' => e = .returned (.int .i64 (earlierI L C k)) ∧ Below w.heap.size w w' := by
  have hled := ledLace g off cap L ao cc C w hlen hw hr hl hrd hao
  clear hr hrd hao hw
  go_enter Tryz.func7, Tryz.ntmps7
  go_wp2_with fail
  refine hled.mono ?_
  clear hled
  rintro e w1 (⟨hlc, hc, g', rfl, hg', hrg, hb1⟩ | ⟨hn, v, y0, y1, y2, y3, y4, y5, y6, rfl, hb1⟩)
  · have HB0 : Hid (Below w.heap.size w (w1.alloc (.cells #[.int .i64 (Ch.leadI C 0), .int .i64 (Ch.leadI C 1), .int .i64 (Ch.leadI C 2), .int .i64 (Ch.leadI C 3), .int .i64 (Ch.leadI C 4), .int .i64 (Ch.leadI C 5), .int .i64 (Ch.leadI C 6)] 44))) := hb1.alloc hb1.size _
    have hB1 : Below w1.heap.size w1 (w1.alloc (.cells #[.int .i64 (Ch.leadI C 0), .int .i64 (Ch.leadI C 1), .int .i64 (Ch.leadI C 2), .int .i64 (Ch.leadI C 3), .int .i64 (Ch.leadI C 4), .int .i64 (Ch.leadI C 5), .int .i64 (Ch.leadI C 6)] 44)) := (Below.refl _ _).alloc (Nat.le_refl _) _
    have HRW : Hid (Db.RowI (w1.alloc (.cells #[.int .i64 (Ch.leadI C 0), .int .i64 (Ch.leadI C 1), .int .i64 (Ch.leadI C 2), .int .i64 (Ch.leadI C 3), .int .i64 (Ch.leadI C 4), .int .i64 (Ch.leadI C 5), .int .i64 (Ch.leadI C 6)] 44)) w1.heap.size 7 (fun i => Ch.leadI C (i : Int))) := Ch.rowI_seven w1 44 (fun i => Ch.leadI C (i : Int))
    generalize hv : w1.alloc (.cells #[.int .i64 (Ch.leadI C 0), .int .i64 (Ch.leadI C 1), .int .i64 (Ch.leadI C 2), .int .i64 (Ch.leadI C 3), .int .i64 (Ch.leadI C 4), .int .i64 (Ch.leadI C 5), .int .i64 (Ch.leadI C 6)] 44) = V at HB0 hB1 HRW
    have hgV := Nat.lt_of_lt_of_le hg' hB1.size
    have hrV := hrg.below hB1
    have HV : Hid (w1.alloc (.cells #[.int .i64 (Ch.leadI C 0), .int .i64 (Ch.leadI C 1), .int .i64 (Ch.leadI C 2), .int .i64 (Ch.leadI C 3), .int .i64 (Ch.leadI C 4), .int .i64 (Ch.leadI C 5), .int .i64 (Ch.leadI C 6)] 44) = V) := hv
    clear hv hg' hrg hb1 hB1
    have hea := earlier g' 0 L.length L C k V hlc hc hgV hrV
    rw [earK_is hlc hc] at hea
    have p0 := HRW.out.rd 0 (by omega)
    have p1 := HRW.out.rd 1 (by omega)
    have p2 := HRW.out.rd 2 (by omega)
    have p3 := HRW.out.rd 3 (by omega)
    have p4 := HRW.out.rd 4 (by omega)
    have p5 := HRW.out.rd 5 (by omega)
    have p6 := HRW.out.rd 6 (by omega)
    generalize hff : earlierI L C k = ff at hea
    have HFF : Hid (earlierI L C k = ff) := hff
    clear hlc hc HRW hff hrV
    go_wp2_with fail
    rw [HV.out]
    go_wp2_with fail
    refine hea.mono ?_
    rintro e w3 ⟨rfl, hb3⟩
    have HB3 : Hid (Below w.heap.size w w3) := HB0.out.trans (hb3.mono HB0.out.size)
    clear hea hb3 p0 p1 p2 p3 p4 p5 p6
    go_wp2
    go_ret
    exact ⟨by rw [HFF.out]; rfl, HB3.out⟩
  · have HB0 : Hid (Below w.heap.size w (w1.alloc (.cells #[.int .i64 y0, .int .i64 y1, .int .i64 y2, .int .i64 y3, .int .i64 y4, .int .i64 y5, .int .i64 y6] 44))) := hb1.alloc hb1.size _
    have HT : Hid (earlierI L C k = -1) := by show _ = _; unfold Ch.earlierI; rw [on_no hn]; rfl
    clear hn hb1
    go_wp2
    go_ret
    exact ⟨by rw [HT.out]; rfl, HB0.out⟩

theorem nums_empty (w w1 : World) (hb : Below w.heap.size w w1) : Sg.NumsPost [] w (.returned (.slice (some ⟨w1.heap.size, 0, none⟩) 0 0)) (w1.alloc (.cells #[] 2)) := by
  refine ⟨some ⟨w1.heap.size, 0, none⟩, 0, rfl, ?_, hb.alloc hb.size _⟩
  obtain ⟨a1, a2⟩ := Memb.own_empty w1
  refine ⟨a1, ?_⟩
  rcases a2 with a2 | ⟨g2, c2, cur, e1, e2, rest⟩
  · exact .inl a2
  · exact .inr ⟨g2, c2, cur, e1, Nat.le_trans hb.size e2, rest⟩

set_option maxHeartbeats 1600000 in
theorem implChainOf (g off cap : Nat) (L : List K) (ao : Option Addr) (cc : Nat) (C : List Int) (k : Int) (w : World) (hlen : L.length ≤ 1099511627776) (hw : WordsOk L) (hr : RdK w (some ⟨g, off, none⟩) L) (hl : C.length ≤ 1048576) (hrd : Lst.Rd w ao C) (hao : ∀ c, ao = some ⟨c, 0, none⟩ → c < w.heap.size) :
    Calls Tryz.prog 6 #[.slice (some ⟨g, off, none⟩) L.length cap, .slice ao C.length cc, .int .i64 k] w (Sg.NumsPost (chainI L C k) w) := by
  have hled := ledLace g off cap L ao cc C w hlen hw hr hl hrd hao
  clear hr hrd hao hw
  go_enter Tryz.func6, Tryz.ntmps6
  go_wp2_with fail
  refine hled.mono ?_
  clear hled
  rintro e w1 (⟨hlc, hc, g', rfl, hg', hrg, hb1⟩ | ⟨hn, v, y0, y1, y2, y3, y4, y5, y6, rfl, hb1⟩)
  · have HB0 : Hid (Below w.heap.size w (w1.alloc (.cells #[.int .i64 (Ch.leadI C 0), .int .i64 (Ch.leadI C 1), .int .i64 (Ch.leadI C 2), .int .i64 (Ch.leadI C 3), .int .i64 (Ch.leadI C 4), .int .i64 (Ch.leadI C 5), .int .i64 (Ch.leadI C 6)] 44))) := hb1.alloc hb1.size _
    have hB1 : Below w1.heap.size w1 (w1.alloc (.cells #[.int .i64 (Ch.leadI C 0), .int .i64 (Ch.leadI C 1), .int .i64 (Ch.leadI C 2), .int .i64 (Ch.leadI C 3), .int .i64 (Ch.leadI C 4), .int .i64 (Ch.leadI C 5), .int .i64 (Ch.leadI C 6)] 44)) := (Below.refl _ _).alloc (Nat.le_refl _) _
    have HRW : Hid (Db.RowI (w1.alloc (.cells #[.int .i64 (Ch.leadI C 0), .int .i64 (Ch.leadI C 1), .int .i64 (Ch.leadI C 2), .int .i64 (Ch.leadI C 3), .int .i64 (Ch.leadI C 4), .int .i64 (Ch.leadI C 5), .int .i64 (Ch.leadI C 6)] 44)) w1.heap.size 7 (fun i => Ch.leadI C (i : Int))) := Ch.rowI_seven w1 44 (fun i => Ch.leadI C (i : Int))
    generalize hv : w1.alloc (.cells #[.int .i64 (Ch.leadI C 0), .int .i64 (Ch.leadI C 1), .int .i64 (Ch.leadI C 2), .int .i64 (Ch.leadI C 3), .int .i64 (Ch.leadI C 4), .int .i64 (Ch.leadI C 5), .int .i64 (Ch.leadI C 6)] 44) = V at HB0 hB1 HRW
    have hgV := Nat.lt_of_lt_of_le hg' hB1.size
    have hrV := hrg.below hB1
    have HV : Hid (w1.alloc (.cells #[.int .i64 (Ch.leadI C 0), .int .i64 (Ch.leadI C 1), .int .i64 (Ch.leadI C 2), .int .i64 (Ch.leadI C 3), .int .i64 (Ch.leadI C 4), .int .i64 (Ch.leadI C 5), .int .i64 (Ch.leadI C 6)] 44) = V) := hv
    clear hv hg' hrg hb1 hB1
    have h60 := ((Lc.lace_iff L).1 hlc).1
    have HA : Hid ((Base.okB (2 ^ L.length - 1) && (Base.inB k && Bit.bit (2 ^ L.length - 1) k.toNat)) = (decide (0 ≤ k) && decide (k < (L.length : Int)))) := Sg.all_has h60 k
    have HON := on_yes hlc hc k
    cases hq : (decide (0 ≤ k) && decide (k < (L.length : Int)))
    · have HT : Hid (chainI L C k = []) := by show _ = _; unfold Ch.chainI; rw [HON, hq]; rfl
      have HAF : Hid ((Base.okB (2 ^ L.length - 1) && (Base.inB k && Bit.bit (2 ^ L.length - 1) k.toNat)) = false) := HA.out.trans hq
      have hp0 := nums_empty w V HB0.out
      have HP : Hid (_) := hp0
      clear HON HA hq hlc hc HRW hrV hgV hp0
      go_wp2_with fail
      rw [HV.out]
      clear HV
      go_wp2_with (first | (go_at_call 20; refine (Lc.all _ _ _ _ h60).mono ?_; rintro e w' ⟨rfl, rfl⟩) | (go_at_call 21; refine (Base.has _ _ _).mono ?_; rintro e w' ⟨rfl, rfl⟩; rw [HAF.out]))
      go_ret
      rw [HT.out]
      exact HP.out
    · have HAT : Hid ((Base.okB (2 ^ L.length - 1) && (Base.inB k && Bit.bit (2 ^ L.length - 1) k.toNat)) = true) := HA.out.trans hq
      have HT : Hid (chainI L C k = chainL L C k) := by show _ = _; unfold Ch.chainI; rw [HON, hq]; rfl
      rw [Bool.and_eq_true, decide_eq_true_eq, decide_eq_true_eq] at hq
      obtain ⟨p, rfl⟩ : ∃ p : Nat, k = (p : Int) := ⟨k.toNat, by omega⟩
      have hch := chain g' 0 L.length L C p V hlc hc hgV hrV (by omega)
      have p0 := HRW.out.rd 0 (by omega)
      have p1 := HRW.out.rd 1 (by omega)
      have p2 := HRW.out.rd 2 (by omega)
      have p3 := HRW.out.rd 3 (by omega)
      have p4 := HRW.out.rd 4 (by omega)
      have p5 := HRW.out.rd 5 (by omega)
      have p6 := HRW.out.rd 6 (by omega)
      generalize chainL L C (p : Int) = cl at hch HT
      clear HON HA hq hlc hc HRW hrV hgV
      go_wp2_with fail
      rw [HV.out]
      clear HV
      go_wp2_with (first | (go_at_call 20; refine (Lc.all _ _ _ _ h60).mono ?_; rintro e w' ⟨rfl, rfl⟩) | (go_at_call 21; refine (Base.has _ _ _).mono ?_; rintro e w' ⟨rfl, rfl⟩; rw [HAT.out]) | (go_at_call 22; refine hch.mono ?_; rintro e w3 ⟨ao3, ca3, rfl, ho3, hb3⟩))
      go_ret
      rw [HT.out]
      exact ⟨ao3, ca3, rfl, own_lower ho3 HB0.out.size, HB0.out.trans (hb3.mono HB0.out.size)⟩
  · have hp0 := nums_empty w (w1.alloc (.cells #[.int .i64 y0, .int .i64 y1, .int .i64 y2, .int .i64 y3, .int .i64 y4, .int .i64 y5, .int .i64 y6] 44)) (hb1.alloc hb1.size _)
    have HT : Hid (chainI L C k = []) := by show _ = _; unfold Ch.chainI; rw [on_no hn]; rfl
    rw [World.size_alloc] at hp0
    have HP : Hid (_) := hp0
    clear hn hb1 hp0
    go_wp2
    go_ret
    rw [HT.out]
    exact HP.out

set_option maxHeartbeats 1600000 in
theorem implOnChain (g off cap : Nat) (L : List K) (ao : Option Addr) (cc : Nat) (C : List Int) (k x : Int) (w : World) (hlen : L.length ≤ 1099511627776) (hw : WordsOk L) (hr : RdK w (some ⟨g, off, none⟩) L) (hl : C.length ≤ 1048576) (hrd : Lst.Rd w ao C) (hao : ∀ c, ao = some ⟨c, 0, none⟩ → c < w.heap.size) :
    Calls Tryz.prog 12 #[.slice (some ⟨g, off, none⟩) L.length cap, .slice ao C.length cc, .int .i64 k, .int .i64 x] w fun e w' => e = .returned (.bool (onChainB L C k x)) ∧ Below w.heap.size w w' := by
  have hch := implChainOf g off cap L ao cc C k w hlen hw hr hl hrd hao
  have hle : (chainI L C k).length ≤ 1048576 := Nat.le_trans Ch.chainI_len (by omega)
  have HT : Hid (onChainB L C k x = (chainI L C k).contains x) := rfl
  generalize onChainB L C k x = oc at HT ⊢
  generalize chainI L C k = cl at hch hle HT
  clear hr hrd hao hw
  go_enter Tryz.func12, Tryz.ntmps12
  go_wp2_with fail
  refine hch.mono ?_
  rintro e w3 ⟨ao3, ca3, rfl, ho3, hb3⟩
  have hco := contains ao3 ca3 cl x w3 hle (Lst.own_rd ho3)
  rw [← HT.out] at hco
  clear hch ho3
  go_wp2_with fail
  refine hco.mono ?_
  rintro e w4 ⟨rfl, rfl⟩
  clear hco
  go_wp2
  go_ret
  exact ⟨rfl, hb3⟩

end Cn
end Go.Proofs.YthdjfmndakeaiaaGreat
