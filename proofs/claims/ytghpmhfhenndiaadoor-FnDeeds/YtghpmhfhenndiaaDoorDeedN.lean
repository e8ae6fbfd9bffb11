/-
  Plain mathematics of deeds written: the words of a right deed, with blanks between them; its pieces are its words, and two right deeds that are written alike are one. No program in it.
-/
import Derived.Test.YtghpmhfhenndiaaDoorDeedM
import Derived.Test.YtghpmhfhenndiaaDoorKnotP
import Derived.Test.YtghpmhfhenndiaaDoorKnotR
namespace Go.Proofs.YtghpmhfhenndiaaDoor
open Go.RowKit
set_option maxRecDepth 100000
namespace De
open Kn (dec B split splitGo)

/-- words with a blank between them -/
def joinW : List (List UInt8) → List UInt8
  | [] => []
  | [a] => a
  | a :: b :: r => a ++ 32 :: joinW (b :: r)
theorem join_snoc (x : List UInt8) : ∀ l : List (List UInt8), joinW (l ++ [x]) = if l = [] then x else joinW l ++ 32 :: x := by
  intro l
  induction l with
  | nil => rfl
  | cons a l ih =>
    cases l with
    | nil => rfl
    | cons b r =>
      rw [if_neg (by simp)]
      show a ++ 32 :: joinW (b :: r ++ [x]) = (a ++ 32 :: joinW (b :: r)) ++ 32 :: x
      rw [ih, if_neg (by simp)]
      simp
theorem splitGo_last (x cur : List UInt8) (h : (32 : UInt8) ∉ x) : splitGo 32 cur x = [cur ++ x] := by
  induction x generalizing cur with
  | nil => simp [splitGo]
  | cons c r ih =>
    rw [splitGo, if_neg (by intro e; exact h (by rw [e]; simp)), ih _ (fun hm => h (by simp [hm]))]
    simp
theorem splitGo_word (x cur r : List UInt8) (h : (32 : UInt8) ∉ x) : splitGo 32 cur (x ++ 32 :: r) = (cur ++ x) :: splitGo 32 [] r := by
  induction x generalizing cur with
  | nil => simp [splitGo]
  | cons c x ih =>
    show splitGo 32 cur (c :: (x ++ 32 :: r)) = _
    rw [splitGo, if_neg (by intro e; exact h (by rw [e]; simp)), ih _ (fun hm => h (by simp [hm]))]
    simp
/-- what was joined is split again -/
theorem split_join : ∀ W : List (List UInt8), W ≠ [] → (∀ x ∈ W, (32 : UInt8) ∉ x) → split 32 (joinW W) = W := by
  intro W
  induction W with
  | nil => intro h; exact absurd rfl h
  | cons a W ih =>
    intro _ h
    cases W with
    | nil => unfold Kn.split joinW; rw [splitGo_last a [] (h a (by simp))]; simp
    | cons b r =>
      unfold Kn.split
      show splitGo 32 [] (a ++ 32 :: joinW (b :: r)) = _
      rw [splitGo_word a [] _ (h a (by simp))]
      have := ih (by simp) (fun x hx => h x (by simp at hx ⊢; rcases hx with e | e <;> simp [e]))
      unfold Kn.split at this
      rw [this]
      simp

/-- the word of a kind -/
def kindW (k : Int) : List UInt8 := if k = 1 then [112, 117, 116] else if k = 2 then [99, 117, 116] else if k = 3 then [97, 100, 100] else [105, 102]
/-- the words of a deed -/
def wordsD (d : D) : List (List UInt8) := kindW d.kind :: d.key.data.toList :: ((if d.kind = 2 then [] else [dec d.val.toNat]) ++ (if d.kind = 4 then [dec d.new.toNat] else []))
/-- a deed written -/
def showD (d : D) : List UInt8 := joinW (wordsD d)

structure OkD (d : D) : Prop where
  k1 : 1 ≤ d.kind
  k4 : d.kind ≤ 4
  key : keyB d.key = true
  v0 : 0 ≤ d.val
  v1 : d.val ≤ 99
  n0 : 0 ≤ d.new
  n1 : d.new ≤ 99
  cut : d.kind = 2 → d.val = 0
  ifs : d.kind ≠ 4 → d.new = 0
theorem okD_iff (d : D) : okD d = true ↔ OkD d := by
  unfold okD
  simp only [Bool.and_eq_true, decide_eq_true_eq, Bool.or_eq_true, bne_iff_ne, ne_eq, beq_iff_eq]
  constructor
  · rintro ⟨⟨a1, a2⟩, a3, ⟨a4, a5⟩, ⟨a6, a7⟩, a8, a9⟩
    exact ⟨a1, a2, a3, a4, a5, a6, a7, fun h => by rcases a8 with q | q; exact absurd h q; exact q, fun h => by rcases a9 with q | q; exact absurd q h; exact q⟩
  · rintro ⟨a1, a2, a3, a4, a5, a6, a7, a8, a9⟩
    exact ⟨⟨a1, a2⟩, a3, ⟨a4, a5⟩, ⟨a6, a7⟩, by by_cases h : d.kind = 2; exact .inr (a8 h); exact .inl h, by by_cases h : d.kind = 4; exact .inl h; exact .inr (a9 h)⟩
theorem key_no {s : ByteArray} (h : keyB s = true) : (32 : UInt8) ∉ s.data.toList := by
  unfold keyB at h
  rw [Bool.and_eq_true, List.all_eq_true] at h
  intro hm
  have := h.1 32 hm
  exact absurd this (by decide)
theorem kind_no (k : Int) : (32 : UInt8) ∉ kindW k := by
  unfold kindW
  split
  · decide
  · split
    · decide
    · split <;> decide
theorem dec_no (n : Nat) (hn : n < 100000000000) : (32 : UInt8) ∉ dec n := fun h => by
  have := Kn.dec_digits n hn 32 h
  exact absurd this.1 (by decide)
theorem words_no {d : D} (h : OkD d) : ∀ x ∈ wordsD d, (32 : UInt8) ∉ x := by
  have b1 := h.v1
  have b2 := h.n1
  intro x hx
  unfold wordsD at hx
  simp only [List.mem_cons, List.mem_append] at hx
  rcases hx with rfl | rfl | hx | hx
  · exact kind_no _
  · exact key_no h.key
  · split at hx
    · simp at hx
    · simp at hx; subst hx; exact dec_no _ (by omega)
  · split at hx
    · simp at hx; subst hx; exact dec_no _ (by omega)
    · simp at hx
theorem split_show {d : D} (h : OkD d) : split 32 (showD d) = wordsD d := split_join _ (by unfold wordsD; simp) (words_no h)
theorem kindW_inj {a b : Int} (ha : 1 ≤ a ∧ a ≤ 4) (hb : 1 ≤ b ∧ b ≤ 4) (h : kindW a = kindW b) : a = b := by
  have e1 : a = 1 ∨ a = 2 ∨ a = 3 ∨ a = 4 := by omega
  have e2 : b = 1 ∨ b = 2 ∨ b = 3 ∨ b = 4 := by omega
  rcases e1 with rfl | rfl | rfl | rfl <;> rcases e2 with rfl | rfl | rfl | rfl <;> first | rfl | exact absurd h (by decide)
theorem dec_inj (a b : Nat) (ha : a < 100000000000) (hb : b < 100000000000) (h : dec a = dec b) : a = b := by
  rw [← Kn.val_dec a ha, ← Kn.val_dec b hb, h]
theorem data_inj {a b : ByteArray} (h : a.data.toList = b.data.toList) : a = b := by
  rw [← Kn.B_data a, ← Kn.B_data b, h]
theorem words_inj {a b : D} (ha : OkD a) (hb : OkD b) (h : wordsD a = wordsD b) : a = b := by
  obtain ⟨k, s, v, n⟩ := a
  obtain ⟨k', s', v', n'⟩ := b
  unfold wordsD at h
  simp only [List.cons.injEq] at h
  obtain ⟨h1, h2, h3⟩ := h
  have hk := kindW_inj ⟨ha.k1, ha.k4⟩ ⟨hb.k1, hb.k4⟩ h1
  have hs := data_inj h2
  have av := ha.v0; have av1 := ha.v1; have an := ha.n0; have an1 := ha.n1
  have bv := hb.v0; have bv1 := hb.v1; have bn := hb.n0; have bn1 := hb.n1
  have ac := ha.cut; have ai := ha.ifs; have bc := hb.cut; have bi := hb.ifs
  simp only at hk hs av av1 an an1 bv bv1 bn bn1 ac ai bc bi h3
  subst hk hs
  have dv : dec v.toNat = dec v'.toNat → v = v' := fun e => by have := dec_inj _ _ (by omega) (by omega) e; omega
  have dn : dec n.toNat = dec n'.toNat → n = n' := fun e => by have := dec_inj _ _ (by omega) (by omega) e; omega
  by_cases h2k : k = 2
  · have e1 := ac h2k
    have e2 := bc h2k
    have e3 := ai (by omega)
    have e4 := bi (by omega)
    subst e1 e2 e3 e4
    rfl
  · by_cases h4k : k = 4
    · rw [if_neg h2k, if_pos h4k, if_neg h2k, if_pos h4k] at h3
      simp only [List.cons_append, List.nil_append, List.cons.injEq, and_true] at h3
      rw [dv h3.1, dn h3.2]
    · have e3 := ai h4k
      have e4 := bi h4k
      rw [if_neg h2k, if_neg h4k, if_neg h2k, if_neg h4k] at h3
      simp only [List.append_nil, List.cons.injEq, and_true] at h3
      rw [dv h3, e3, e4]
/-- two right deeds that are written alike are one -/
theorem showD_inj {a b : D} (ha : okD a = true) (hb : okD b = true) (h : showD a = showD b) : a = b := by
  have ha := (okD_iff a).1 ha
  have hb := (okD_iff b).1 hb
  refine words_inj ha hb ?_
  rw [← split_show ha, ← split_show hb, h]

end De
end Go.Proofs.YtghpmhfhenndiaaDoor
