/-
  What the program's only and askSetAndKnot answer, whatever function they are handed: in plain words.
-/
import Derived.Test.YtodgkhlnefggdaaGreatDoubX
namespace Go.Proofs.YtodgkhlnefggdaaGreat
open Go.RowKit
set_option maxRecDepth 100000
namespace Ak
open Kn (K okK)
open Bit (bit withB memTo)
open Lc (at' RdK WordsOk laceB setB)
open Sg (isB bel)

/-- those of a list that are wanted, as a set -/
def onlyF (P : Int → Bool) (l : List Int) : Int := l.foldl (fun x a => if P a then withB x a.toNat else x) 0

theorem onlyF_snoc (P : Int → Bool) (l : List Int) (a : Int) : onlyF P (l ++ [a]) = if P a then withB (onlyF P l) a.toNat else onlyF P l := by
  unfold onlyF; rw [List.foldl_append]; rfl

theorem onlyF_bits (P : Int → Bool) (l : List Int) (hl : ∀ a ∈ l, 0 ≤ a ∧ a < 60) : (0 ≤ onlyF P l ∧ onlyF P l < 1152921504606846976) ∧ ∀ j : Nat, bit (onlyF P l) j = true ↔ ((j : Int) ∈ l ∧ P (j : Int) = true) := by
  suffices H : ∀ (l : List Int) (x : Int), (∀ a ∈ l, 0 ≤ a ∧ a < 60) → (0 ≤ x ∧ x < 1152921504606846976) →
      (0 ≤ l.foldl (fun x a => if P a then withB x a.toNat else x) x ∧ l.foldl (fun x a => if P a then withB x a.toNat else x) x < 1152921504606846976) ∧
      ∀ j : Nat, bit (l.foldl (fun x a => if P a then withB x a.toNat else x) x) j = true ↔ (bit x j = true ∨ ((j : Int) ∈ l ∧ P (j : Int) = true)) by
    have := H l 0 hl ⟨Int.le_refl 0, by decide⟩
    refine ⟨this.1, fun j => ?_⟩
    rw [show onlyF P l = l.foldl (fun x a => if P a then withB x a.toNat else x) 0 from rfl, this.2 j, Lc.bit_zero]
    simp
  intro l
  induction l with
  | nil => intro x _ hx; exact ⟨hx, fun j => by simp⟩
  | cons a l ih =>
    intro x hl hx
    have ha := hl a (by simp)
    obtain ⟨p, rfl⟩ := Int.eq_ofNat_of_zero_le ha.1
    simp only [List.foldl_cons]
    cases hn : P (p : Int)
    · rw [if_neg (by simp)]
      have := ih x (fun a h => hl a (by simp [h])) hx
      refine ⟨this.1, fun j => ?_⟩
      rw [this.2 j]
      constructor
      · rintro (h | ⟨h1, h2⟩)
        · exact .inl h
        · exact .inr ⟨by simp [h1], h2⟩
      · rintro (h | ⟨h1, h2⟩)
        · exact .inl h
        · rcases List.mem_cons.1 h1 with e | e
          · rw [e, hn] at h2; exact Bool.noConfusion h2
          · exact .inr ⟨e, h2⟩
    · rw [if_pos rfl, Int.toNat_natCast]
      have := ih (withB x p) (fun a h => hl a (by simp [h])) (Bit.withB_bd x hx.1 hx.2 p (by omega))
      refine ⟨this.1, fun j => ?_⟩
      rw [this.2 j, Bit.bit_withB x hx.1]
      constructor
      · rintro (h | ⟨h1, h2⟩)
        · rw [Bool.or_eq_true, decide_eq_true_eq] at h
          rcases h with h | h
          · subst h; exact .inr ⟨by simp, hn⟩
          · exact .inl h
        · exact .inr ⟨by simp [h1], h2⟩
      · rintro (h | ⟨h1, h2⟩)
        · exact .inl (by rw [h]; simp)
        · rcases List.mem_cons.1 h1 with e | e
          · exact .inl (by rw [Bool.or_eq_true, decide_eq_true_eq]; exact .inl (by omega))
          · exact .inr ⟨e, h2⟩

theorem mem_memI {s : Int} {x : Int} (h : x ∈ Memb.memI s) : 0 ≤ x ∧ x < 60 := by
  unfold Memb.memI at h
  split at h
  · obtain ⟨j, hj, rfl, _⟩ := (Bit.mem_memTo s 60 x).1 h
    omega
  · exact absurd h (by simp)

theorem mem_bit {s : Int} (q0 : 0 ≤ s) (q1 : s < 1152921504606846976) (j : Nat) : (j : Int) ∈ Memb.memI s ↔ bit s j = true := by
  unfold Memb.memI
  rw [(Base.okB_iff s).2 ⟨q0, q1⟩, if_pos rfl, Bit.mem_memTo]
  constructor
  · rintro ⟨i, _, e, h⟩
    obtain rfl : j = i := by omega
    exact h
  · intro h
    refine ⟨j, ?_, rfl, h⟩
    apply Classical.byContradiction
    intro hn
    rw [Lc.bit_hi s 60 q0 (by omega) j (by omega)] at h
    exact Bool.noConfusion h

theorem bit_all {n : Nat} (hn : n ≤ 60) (k : Nat) : bit (2 ^ n - 1) k = decide (k < n) := by
  have hp := Lc.pow60 n hn
  have e : ((2 : Int) ^ n - 1) = ((2 ^ n - 1 : Nat) : Int) := by rw [Int.ofNat_sub Nat.one_le_two_pow]; simp
  rw [Bit.bit_testBit _ (by omega), e, Int.toNat_natCast, Nat.testBit_two_pow_sub_one]

set_option maxHeartbeats 1600000 in
theorem only (fid : Nat) (eg : ∀ args w, (callFunc fid args).run Tryz.prog w = .ok (.enter fid args) w) (c1 c2 : Value) (P : Int → Bool) (s : Int) (w : World)
    (HC : ∀ (W : World) (a : Int), Below w.heap.size w W → 0 ≤ a → a < 60 → Calls Tryz.prog fid #[.int .i64 a, c1, c2] W fun e w' => e = .returned (.bool (P a)) ∧ Below W.heap.size W w') :
    Calls Tryz.prog 65 #[.int .i64 s, .func (.func fid) #[] #[c1, c2]] w fun e w' => e = .returned (.int .i64 (onlyF P (Memb.memI s))) ∧ Below w.heap.size w w' := by
  have HCC : Hid (∀ (W : World) (a : Int), Below w.heap.size w W → 0 ≤ a → a < 60 → Calls Tryz.prog fid #[.int .i64 a, c1, c2] W fun e w' => e = .returned (.bool (P a)) ∧ Below W.heap.size W w') := HC
  clear HC
  go_enter Tryz.func65, Tryz.ntmps65
  go_wp2_with fail
  refine (Memb.picked s _).mono ?_
  rintro e w2 ⟨ao, ca, rfl, hown, hb2⟩
  have hrd := Lst.own_rd hown
  have HBO : Hid (∀ c, ao = some ⟨c, 0, none⟩ → c < w2.heap.size) := fun c e => by subst e; exact (World.ownsRow.lt hown c rfl).2
  have hle : (Memb.memI s).length ≤ 60 := by unfold Memb.memI; split; exact Bit.memTo_le s 60; simp
  have HI : Hid (∀ i ∈ Memb.memI s, 0 ≤ i ∧ i < 60) := fun i h => mem_memI h
  have HB2 : Hid (Below w.heap.size w w2) := hb2
  clear hown hb2
  generalize hml : Memb.memI s = l at hrd hle HI ⊢
  have HML : Hid (Memb.memI s = l) := hml
  clear hml
  go_wp2
  go_loopw [5, 12] (fun o i wr => ∃ j : Nat, j ≤ l.length ∧ i = .int .i64 j ∧ o = .int .i64 (onlyF P (l.take j)) ∧ Hid (Below w2.heap.size w2 wr)) (fun _ i _ => l.length - (intOf i).toNat)
  case atStart => exact ⟨0, by omega, rfl, rfl, Below.refl _ _⟩
  case round =>
    obtain ⟨j, hj, rfl, rfl, HB⟩ := hrel
    by_cases hlt : j < l.length
    · rcases hrd with hrd | ⟨bb, rfl, hcell⟩
      · rw [hrd] at hlt; simp at hlt
      have hbb := HBO.out bb rfl
      have cj := (HB.out.cell (p := ⟨bb, j, none⟩) hbb).trans (hcell j hlt)
      have hx := HI.out (l.getD j 0) (by simp [List.getD, List.getElem?_eq_getElem hlt])
      have hF := (onlyF_bits P (l.take j) (fun a h => HI.out a (List.mem_of_mem_take h))).1
      have HS : Hid (onlyF P (l.take (j + 1)) = if P (l.getD j 0) then withB (onlyF P (l.take j)) (l.getD j 0).toNat else onlyF P (l.take j)) := by
        show _ = _
        rw [Lc.take_snocI l j hlt, onlyF_snoc]
      generalize l.getD j 0 = x at cj hx HS
      generalize onlyF P (l.take j) = fo at hF HS ⊢
      have hcall := HCC.out wr x (HB2.out.trans (HB.out.mono HB2.out.size)) hx.1 hx.2
      clear hcell
      have HW : Hid (Base.withI fo x = withB fo x.toNat) := by
        show _ = _
        unfold Base.withI
        rw [(Base.okB_iff _).2 hF, (Base.inB_iff _).2 hx]; simp
      generalize hpx : P x = px at hcall
      have HPX : Hid (P x = px) := hpx
      clear hpx
      go_wp2_with fail
      refine hcall.mono ?_
      rintro e w3 ⟨rfl, hb3⟩
      have HB3 : Hid (Below w2.heap.size w2 w3) := HB.out.trans (hb3.mono HB.out.size)
      clear hcall hb3 HB cj
      cases px
      · have HD : Hid (onlyF P (l.take (j + 1)) = fo) := by show _ = _; rw [HS.out, HPX.out]; rfl
        clear HPX HS
        go_wp2
        go_roundw
        case rel => exact ⟨j + 1, by omega, by go_num, by rw [HD.out], HB3⟩
        case measure => simp [intOf]; omega
      · have HD : Hid (onlyF P (l.take (j + 1)) = withB fo x.toNat) := by show _ = _; rw [HS.out, HPX.out]; rfl
        clear HPX HS
        go_wp2_with (go_at_call 83; refine (Base.withM _ _ _).mono ?_; rintro e w' ⟨rfl, rfl⟩; rw [HW.out])
        go_roundw
        case rel => exact ⟨j + 1, by omega, by go_num, by rw [HD.out], HB3⟩
        case measure => simp [intOf]; omega
    · obtain rfl : j = l.length := by omega
      have e : l.take l.length = l := List.take_length
      rw [e]
      have HBE : Hid (Below w.heap.size w wr) := HB2.out.trans (HB.out.mono HB2.out.size)
      clear HB HB2
      go_wp2
      go_ret
      exact ⟨by rw [HML.out]; rfl, HBE.out⟩

theorem two_box (w : World) (k : Int) (f : Value) (t u : TypeId) : Below w.heap.size w ((w.alloc (.cells #[.int .i64 k] t)).alloc (.cells #[f] u)) ∧ ((w.alloc (.cells #[.int .i64 k] t)).alloc (.cells #[f] u)).cell? ⟨w.heap.size, 0, none⟩ = some (.int .i64 k) ∧ ((w.alloc (.cells #[.int .i64 k] t)).alloc (.cells #[f] u)).cell? ⟨w.heap.size + 1, 0, none⟩ = some f ∧ w.heap.size + 1 < ((w.alloc (.cells #[.int .i64 k] t)).alloc (.cells #[f] u)).heap.size := by
  have c1 := Sg.boxNew (w.alloc (.cells #[.int .i64 k] t)) f u
  simp only [World.size_alloc] at c1
  exact ⟨((Below.refl _ _).alloc (Nat.le_refl _) _).alloc (by simp) _, Sg.boxCell _ (Sg.boxNew w (.int .i64 k) t).1, c1.1, by simp⟩

/-- the answer, or the one fixed answer -/
def askI (L : List K) (s k A : Int) : Int := if setB L s && isB L k then A else -1

end Ak
end Go.Proofs.YtodgkhlnefggdaaGreat
