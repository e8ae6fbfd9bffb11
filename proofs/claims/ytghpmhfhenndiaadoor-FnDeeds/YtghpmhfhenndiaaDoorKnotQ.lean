/-
  Plain mathematics of reading a knot: a right knot's text has just its words ahead of the colon, and two right knots with one text are one; no program in it.
-/
import Derived.Test.YtghpmhfhenndiaaDoorKnotR
import Derived.Test.YtghpmhfhenndiaaDoorKnotP
import Derived.Test.YtghpmhfhenndiaaDoorKnotT
namespace Go.Proofs.YtghpmhfhenndiaaDoor
open Go.RowKit
set_option maxRecDepth 100000
namespace Kn

/-- words, a blank behind each -/
def blanks : List (List UInt8) → List UInt8
  | [] => []
  | x :: l => x ++ (32 :: blanks l)
theorem blanks_app (a b : List (List UInt8)) : blanks (a ++ b) = blanks a ++ blanks b := by
  induction a with
  | nil => rfl
  | cons m l ih => simp [blanks, ih]

theorem splitGo_word (x cur r : List UInt8) (h : (32 : UInt8) ∉ x) : splitGo 32 cur (x ++ 32 :: r) = (cur ++ x) :: splitGo 32 [] r := by
  induction x generalizing cur with
  | nil => simp [splitGo]
  | cons c x ih =>
    simp only [List.mem_cons, not_or] at h
    rw [List.cons_append, splitGo, if_neg (fun e => h.1 e.symm), ih _ h.2]
    simp

theorem split_blanks (W : List (List UInt8)) (h : ∀ x ∈ W, (32 : UInt8) ∉ x) : split 32 (blanks W) = W ++ [[]] := by
  unfold split
  induction W with
  | nil => simp [blanks, splitGo]
  | cons x W ih =>
    rw [blanks, splitGo_word x [] _ (h x (by simp)), ih (fun y hy => h y (by simp [hy]))]
    simp

/-- the words of a knot ahead of the colon -/
def wordsK (k : K) : List (List UInt8) := dec k.hand.toNat :: dec k.round.toNat :: (Bit.memTo k.frm 60).map (fun m => dec m.toNat)

theorem showM_blanks (l : List Int) : showM l = blanks (l.map fun m => dec m.toNat) := by
  induction l with
  | nil => rfl
  | cons m l ih => simp [showM, blanks, ih]

theorem showK_eq (k : K) : showK k = blanks (wordsK k) ++ (58 :: if k.word.size = 0 then [] else 32 :: k.word.data.toList) := by
  unfold showK wordsK showH
  rw [showM_blanks]
  simp [blanks]

theorem okK_parts {k : K} (h : okK k = true) : (0 ≤ k.hand ∧ k.hand ≤ 3) ∧ (0 ≤ k.round ∧ k.round ≤ 19) ∧ (0 ≤ k.frm ∧ k.frm < 1152921504606846976) ∧ both0 k.round k.frm = true ∧ okW k.word = true := by
  unfold okK in3 in19 at h
  simp only [Bool.and_eq_true, decide_eq_true_eq, Base.okB_iff] at h
  exact ⟨h.1, h.2.1, h.2.2.1, h.2.2.2.1, h.2.2.2.2⟩

theorem dec_signs (n : Nat) (hn : n < 100000000000) (c : UInt8) (hc : c.toNat < 48 ∨ 57 < c.toNat) : c ∉ dec n := by
  intro h
  have := dec_digits n hn c h
  omega

theorem words_small {k : K} (h : okK k = true) : ∀ x ∈ wordsK k, ∃ n : Nat, n < 60 ∧ x = dec n := by
  obtain ⟨h1, h2, _⟩ := okK_parts h
  intro x hx
  unfold wordsK at hx
  simp only [List.mem_cons, List.mem_map] at hx
  rcases hx with rfl | rfl | ⟨m, hm, rfl⟩
  · exact ⟨_, by omega, rfl⟩
  · exact ⟨_, by omega, rfl⟩
  · obtain ⟨j, hj, rfl, _⟩ := (Bit.mem_memTo _ _ _).1 hm
    exact ⟨_, by omega, rfl⟩

theorem words_no {k : K} (h : okK k = true) (c : UInt8) (hc : c.toNat < 48 ∨ 57 < c.toNat) : ∀ x ∈ wordsK k, c ∉ x := by
  intro x hx
  obtain ⟨n, hn, rfl⟩ := words_small h x hx
  exact dec_signs n (by omega) c hc

theorem blanks_no (W : List (List UInt8)) (c : UInt8) (hc : c ≠ 32) (h : ∀ x ∈ W, c ∉ x) : c ∉ blanks W := by
  induction W with
  | nil => simp [blanks]
  | cons x W ih =>
    rw [blanks, List.mem_append, List.mem_cons]
    rintro (h1 | h1 | h1)
    · exact h x (by simp) h1
    · exact hc h1
    · exact ih (fun y hy => h y (by simp [hy])) h1

/-- the first colon -/
def IsCut (l : List UInt8) (c : Nat) : Prop := c ≤ l.length ∧ (58 : UInt8) ∉ l.take c ∧ (c < l.length → l[c]? = some 58)

theorem cut_unique (p r : List UInt8) (c : Nat) (hp : (58 : UInt8) ∉ p) (h : IsCut (p ++ 58 :: r) c) : c = p.length := by
  obtain ⟨h1, h2, h3⟩ := h
  rcases Nat.lt_trichotomy c p.length with hlt | rfl | hgt
  · exfalso
    have := h3 (by simp; omega)
    rw [List.getElem?_append_left hlt, List.getElem?_eq_getElem hlt] at this
    have e := Option.some.inj this
    exact hp (e ▸ List.getElem_mem hlt)
  · rfl
  · exfalso
    apply h2
    have e : p ++ 58 :: r = (p ++ [58]) ++ r := by simp
    rw [e, List.take_append, List.mem_append]
    left
    rw [List.take_of_length_le (by simp; omega)]
    simp

theorem cut_show {k : K} (h : okK k = true) (c : Nat) (hc : IsCut (showK k) c) : (showK k).take c = blanks (wordsK k) ∧ split 32 ((showK k).take c) = wordsK k ++ [[]] := by
  have h58 : (58 : UInt8) ∉ blanks (wordsK k) := blanks_no _ 58 (by decide) (words_no h 58 (by decide))
  rw [showK_eq] at hc ⊢
  have e := cut_unique _ _ c h58 hc
  have e2 : (blanks (wordsK k) ++ (58 :: if k.word.size = 0 then [] else 32 :: k.word.data.toList)).take c = blanks (wordsK k) := by
    rw [e, List.take_left']
    rfl
  rw [e2]
  exact ⟨rfl, split_blanks _ (words_no h 32 (by decide))⟩

theorem word_show {k : K} (h : okK k = true) (c : Nat) (hc : IsCut (showK k) c) : k.word.data.toList = (if c + 2 < (showK k).length then (showK k).drop (c + 2) else []) := by
  have h58 : (58 : UInt8) ∉ blanks (wordsK k) := blanks_no _ 58 (by decide) (words_no h 58 (by decide))
  rw [showK_eq] at hc ⊢
  have e := cut_unique _ _ c h58 hc
  subst e
  by_cases hw : k.word.size = 0
  · have : k.word.data.toList = [] := List.length_eq_zero_iff.1 (by simpa using hw)
    simp [hw, this]
  · have hl : (blanks (wordsK k)).length + 2 < (blanks (wordsK k) ++ (58 :: if k.word.size = 0 then [] else 32 :: k.word.data.toList)).length := by
      simp [hw]; omega
    rw [if_pos hl, List.drop_append]
    simp [hw]

/-- what the members come to -/
def fromTo (l : List Int) : Int := l.foldl (fun a m => Bit.withB a m.toNat) 0
theorem fromTo_snoc (l : List Int) (m : Int) : fromTo (l ++ [m]) = Bit.withB (fromTo l) m.toNat := by simp [fromTo]
theorem snoc_ind {P : List Int → Prop} (h0 : P []) (h1 : ∀ l m, P l → P (l ++ [m])) (l : List Int) : P l := by
  have h : ∀ r : List Int, P r.reverse := by
    intro r
    induction r with
    | nil => exact h0
    | cons m r ih => rw [List.reverse_cons]; exact h1 _ _ ih
  have := h l.reverse
  rwa [List.reverse_reverse] at this
theorem fromTo_bd (l : List Int) : (∀ m ∈ l, 0 ≤ m ∧ m < 60) → 0 ≤ fromTo l ∧ fromTo l < 1152921504606846976 := by
  refine snoc_ind (P := fun l => (∀ m ∈ l, 0 ≤ m ∧ m < 60) → 0 ≤ fromTo l ∧ fromTo l < 1152921504606846976) ?_ ?_ l
  · intro _; simp [fromTo]
  · intro l m ih h
    have := ih (fun x hx => h x (by simp [hx]))
    have hm := h m (by simp)
    rw [fromTo_snoc]
    exact Bit.withB_bd _ this.1 this.2 _ (by omega)
theorem bit_fromTo (l : List Int) (i : Nat) : (∀ m ∈ l, 0 ≤ m ∧ m < 60) → (Bit.bit (fromTo l) i = true ↔ (i : Int) ∈ l) := by
  refine snoc_ind (P := fun l => (∀ m ∈ l, 0 ≤ m ∧ m < 60) → (Bit.bit (fromTo l) i = true ↔ (i : Int) ∈ l)) ?_ ?_ l
  · intro _; simp [fromTo, Bit.bit]
  · intro l m ih h
    have hb := fromTo_bd l (fun x hx => h x (by simp [hx]))
    have hm := h m (by simp)
    rw [fromTo_snoc, Bit.bit_withB _ hb.1]
    simp only [Bool.or_eq_true, decide_eq_true_eq, List.mem_append, List.mem_singleton]
    rw [ih (fun x hx => h x (by simp [hx]))]
    constructor
    · rintro (h1 | h1)
      · right; omega
      · exact .inl h1
    · rintro (h1 | h1)
      · exact .inr h1
      · left; omega

theorem eq_of_bits (a b : Int) (ha : 0 ≤ a) (hb : 0 ≤ b) (h : ∀ i, Bit.bit a i = Bit.bit b i) : a = b := by
  have : a.toNat = b.toNat := by
    apply Nat.eq_of_testBit_eq
    intro i
    rw [← Bit.bit_testBit a ha, ← Bit.bit_testBit b hb, h i]
  omega

theorem mem60 (s m : Int) (h : m ∈ Bit.memTo s 60) : 0 ≤ m ∧ m < 60 := by
  obtain ⟨j, hj, rfl, _⟩ := (Bit.mem_memTo _ _ _).1 h
  omega

theorem fromTo_mem (s : Int) (h0 : 0 ≤ s) (h1 : s < 1152921504606846976) : fromTo (Bit.memTo s 60) = s := by
  have hb := fromTo_bd (Bit.memTo s 60) (mem60 s)
  apply eq_of_bits _ _ hb.1 h0
  intro i
  rw [Bool.eq_iff_iff, bit_fromTo _ _ (mem60 s), Bit.mem_memTo]
  constructor
  · rintro ⟨j, _, hj, hb⟩
    have : i = j := by omega
    rw [this]; exact hb
  · intro hb
    by_cases hi : i < 60
    · exact ⟨i, hi, rfl, hb⟩
    · exfalso
      have := Bit.div_big s h0 h1 i (by omega)
      simp [Bit.bit, this] at hb

/-- the part of a knot that its first j words give -/
def partK (k : K) (j : Nat) : Int × Int × Int := (if 0 < j then k.hand else 0, if 1 < j then k.round else 0, fromTo ((Bit.memTo k.frm 60).take (j - 2)))

/-- what has been read is the part of every right knot with this text -/
def Part (l : List UInt8) (j : Nat) (h r f : Int) : Prop := ∀ k : K, okK k = true → showK k = l → (h, r, f) = partK k j

theorem part_zero' (l : List UInt8) : Part l 0 0 0 0 := by intro k _ _; simp [partK, fromTo]

theorem dec_inj (a b : Nat) (ha : a < 100000000000) (hb : b < 100000000000) (h : dec a = dec b) : a = b := by
  rw [← val_dec a ha, ← val_dec b hb, h]

theorem get3 {α : Type} (a b : α) (l : List α) (j : Nat) (x : α) (h : (a :: b :: l)[j]? = some x) : (j = 0 ∧ x = a) ∨ (j = 1 ∧ x = b) ∨ (2 ≤ j ∧ l[j - 2]? = some x) := by
  cases j with
  | zero => left; exact ⟨rfl, (by simpa using h.symm)⟩
  | succ j =>
    cases j with
    | zero => right; left; exact ⟨rfl, (by simpa using h.symm)⟩
    | succ j => right; right; exact ⟨by omega, by simpa using h⟩

/-- the j-th word of a right knot -/
theorem word_at {k : K} (h : okK k = true) (c : Nat) (hc : IsCut (showK k) c) (j : Nat) (x : List UInt8) (hj : j + 1 < (split 32 ((showK k).take c)).length) (hx : (split 32 ((showK k).take c))[j]? = some x) :
    ∃ n : Nat, n < 60 ∧ x = dec n ∧ (j = 0 → (n : Int) = k.hand) ∧ (j = 1 → (n : Int) = k.round) ∧ (2 ≤ j → (Bit.memTo k.frm 60)[j - 2]? = some (n : Int)) := by
  have hs := (cut_show h c hc).2
  obtain ⟨h1, h2, _⟩ := okK_parts h
  rw [hs] at hj hx
  have hj' : j < (wordsK k).length := by rw [List.length_append] at hj; simp only [List.length_cons, List.length_nil] at hj; omega
  rw [List.getElem?_append_left hj'] at hx
  clear hs hc hj hj'
  unfold wordsK at hx
  rcases get3 _ _ _ _ _ hx with ⟨h3, rfl⟩ | ⟨h3, rfl⟩ | ⟨h3, h4⟩
  · exact ⟨k.hand.toNat, by omega, rfl, fun _ => by omega, fun h => by omega, fun h => by omega⟩
  · exact ⟨k.round.toNat, by omega, rfl, fun h => by omega, fun _ => by omega, fun h => by omega⟩
  · rw [List.getElem?_map, Option.map_eq_some_iff] at h4
    obtain ⟨m, hm, rfl⟩ := h4
    have hb := mem60 k.frm m (List.mem_of_getElem? hm)
    have em : ((m.toNat : Nat) : Int) = m := by omega
    exact ⟨m.toNat, by omega, rfl, fun h => by omega, fun h => by omega, fun _ => by rw [hm, em]⟩

theorem part_hand {l : List UInt8} {c j : Nat} {x : List UInt8} {h r f n : Int} (hc : IsCut l c) (hj : j + 1 < (split 32 (l.take c)).length) (hx : (split 32 (l.take c))[j]? = some x) (hr : ∀ m : Nat, m < 1000000000 → x = dec m → n = (m : Int)) (hp : Part l j h r f) (h0 : j = 0) : Part l (j + 1) n r f := by
  intro k hk e
  subst e
  obtain ⟨m, hm, rfl, h1, _⟩ := word_at hk c hc j x hj hx
  have := hp k hk rfl
  have hn := hr m (by omega) rfl
  subst h0
  simp only [partK] at this ⊢
  simp only [Prod.mk.injEq] at this
  rw [this.2.1, this.2.2, hn, h1 rfl]
  simp

theorem part_round {l : List UInt8} {c j : Nat} {x : List UInt8} {h r f n : Int} (hc : IsCut l c) (hj : j + 1 < (split 32 (l.take c)).length) (hx : (split 32 (l.take c))[j]? = some x) (hr : ∀ m : Nat, m < 1000000000 → x = dec m → n = (m : Int)) (hp : Part l j h r f) (h0 : j = 1) : Part l (j + 1) h n f := by
  intro k hk e
  subst e
  obtain ⟨m, hm, rfl, _, h1, _⟩ := word_at hk c hc j x hj hx
  have := hp k hk rfl
  have hn := hr m (by omega) rfl
  subst h0
  simp only [partK] at this ⊢
  simp only [Prod.mk.injEq] at this
  rw [this.1, this.2.2, hn, h1 rfl]
  simp

theorem part_from {l : List UInt8} {c j : Nat} {x : List UInt8} {h r f n : Int} (hc : IsCut l c) (hj : j + 1 < (split 32 (l.take c)).length) (hx : (split 32 (l.take c))[j]? = some x) (hr : ∀ m : Nat, m < 1000000000 → x = dec m → n = (m : Int)) (hp : Part l j h r f) (h0 : 2 ≤ j) : Part l (j + 1) h r (Bit.withB f n.toNat) := by
  intro k hk e
  subst e
  obtain ⟨m, hm, rfl, _, _, h1⟩ := word_at hk c hc j x hj hx
  have := hp k hk rfl
  have hn := hr m (by omega) rfl
  have hg := h1 h0
  have hlt : j - 2 < (Bit.memTo k.frm 60).length := by
    apply Classical.byContradiction; intro h2
    rw [List.getElem?_eq_none (by omega)] at hg; simp at hg
  have hge : (Bit.memTo k.frm 60)[j - 2] = (m : Int) := by
    rw [List.getElem?_eq_getElem hlt] at hg; exact Option.some.inj hg
  simp only [partK] at this ⊢
  simp only [Prod.mk.injEq] at this
  rw [show j + 1 - 2 = (j - 2) + 1 from by omega, List.take_succ_eq_append_getElem hlt, fromTo_snoc, hge, ← this.2.2, this.1, this.2.1, hn]
  have a1 : 0 < j := by omega
  have a2 : 1 < j := by omega
  have a3 : 0 < j + 1 := by omega
  have a4 : 1 < j + 1 := by omega
  simp [a1, a2]

/-- a word that isn't read, or is no member, is of no right knot -/
theorem bad_word {l : List UInt8} {c j : Nat} {x : List UInt8} (hc : IsCut l c) (hj : j + 1 < (split 32 (l.take c)).length) (hx : (split 32 (l.take c))[j]? = some x) (hr : ∀ m : Nat, m < 60 → x ≠ dec m) : ∀ k, okK k = true → showK k ≠ l := by
  intro k hk e
  subst e
  obtain ⟨m, hm, rfl, _⟩ := word_at hk c hc j x hj hx
  exact hr m hm rfl

theorem part_end {l : List UInt8} {c : Nat} {h r f : Int} (hc : IsCut l c) (hp : Part l ((split 32 (l.take c)).length - 1) h r f) (k : K) (hk : okK k = true) (e : showK k = l) : h = k.hand ∧ r = k.round ∧ f = k.frm := by
  subst e
  have hs := (cut_show hk c hc).2
  have := hp k hk rfl
  rw [hs] at this
  have hl : (wordsK k ++ [[]]).length - 1 = (Bit.memTo k.frm 60).length + 2 := by simp [wordsK]
  rw [hl] at this
  obtain ⟨_, _, h3, _⟩ := okK_parts hk
  simp only [partK, Prod.mk.injEq] at this
  refine ⟨by rw [this.1]; simp, by rw [this.2.1]; simp, ?_⟩
  rw [this.2.2, show (Bit.memTo k.frm 60).length + 2 - 2 = (Bit.memTo k.frm 60).length from by omega, List.take_length, fromTo_mem k.frm h3.1 h3.2]

end Kn
end Go.Proofs.YtghpmhfhenndiaaDoor
