/-
  Plain mathematics of the program's own reading and writing of knots: how decimal digits, fields, the first colon and joined texts come out at a right knot's text, and that two right knots with one text are one; no program in it.
-/
import Derived.Test.YtiopckkcdmeagaaGreatDoorKnotV
import Derived.Lib.ItoaNum
import Derived.Lib.ParseIntB
import Derived.Lib.SpaceU
import Derived.Shelf.Strings.FieldsAny
import Derived.Lib.IndexMore
import Derived.Lib.Join
import Derived.Lib.Strings
namespace Go.Proofs.YtiopckkcdmeagaaGreatDoor
open Go.RowKit
set_option maxRecDepth 100000
namespace Kn

theorem decDigits_dec : ∀ n, n < 100000000000 → Lib.decDigits n = dec n := by
  apply dec_ind
  · intro n h
    rw [dec_small n h, Lib.decDigits]
    simp only [h, dif_pos, dig]
    rw [Nat.mod_eq_of_lt h]
  · intro n h10 hn ih
    rw [dec_big n h10 hn, Lib.decDigits, dif_neg (by omega), ih]
    rfl

theorem itoa_dec (n : Nat) (h : n < 100000000000) : Lib.itoa (n : Int) = dec n := by
  unfold Lib.itoa
  rw [if_neg (by omega), Int.toNat_natCast, decDigits_dec n h]

theorem parse_ok (M : Nat) (hM : 1000000000000000000 ≤ M) (l : List UInt8) : ∀ (acc a : Nat), (∀ c ∈ l, 48 ≤ c.toNat ∧ c.toNat ≤ 57) → acc < 10 ^ a → a + l.length ≤ 18 →
    Lib.parseUintM M acc l = .ok (l.foldl (fun a c => a * 10 + (c.toNat - 48)) acc) := by
  induction l with
  | nil => intro acc a _ _ _; rfl
  | cons c r ih =>
    intro acc a hd hacc hlen
    have hc := hd c (by simp)
    have h17 : 10 ^ a ≤ 10 ^ 17 := Nat.pow_le_pow_right (by decide) (by simp at hlen; omega)
    have hp : acc * 10 + (c.toNat - 48) < 10 ^ (a + 1) := by rw [Nat.pow_succ]; omega
    have e17 : (10 : Nat) ^ 17 = 100000000000000000 := by decide
    rw [Lib.parseUintM, if_pos hc, if_neg (by omega), if_neg (by omega)]
    rw [ih (acc * 10 + (c.toNat - 48)) (a + 1) (fun c' h' => hd c' (by simp [h'])) hp (by simp at hlen; omega)]
    rfl

theorem parse_dec (m : Nat) (hm : m < 1000000000) : Lib.parseIntB 64 (dec m) = .ok (m : Int) := by
  have hd := dec_digits m (by omega)
  have hl := dec_length 8 m (by simpa using hm) (by omega)
  have hv := val_dec m (by omega)
  have hne := dec_ne m (by omega)
  have hu : Lib.parseUintB 64 (dec m) = .ok m := by
    unfold Lib.parseUintB
    rw [if_neg hne, parse_ok (2 ^ 64 - 1) (by decide) (dec m) 0 0 hd (by decide) (by omega)]
    rw [← hv]; simp only [val]
    rw [show (dec (List.foldl (fun a c => a * 10 + (c.toNat - 48)) 0 (dec m))) = dec m from by
      have := hv; unfold val at this; rw [this]]
  cases hc : dec m with
  | nil => exact absurd hc hne
  | cons c r =>
    have hcd := hd c (by rw [hc]; simp)
    rw [hc] at hu
    unfold Lib.parseIntB
    simp only [show ¬ (c.toNat = 43 ∨ c.toNat = 45) from by omega, if_false, hu]
    rw [if_neg (by intro ⟨_, h⟩; have e : (2 : Nat) ^ (64 - 1) = 9223372036854775808 := by decide
                   omega), if_neg (by intro ⟨h, _⟩; omega), if_neg (by omega)]

/-! ### fields -/

theorem fields_word (x : List UInt8) : ∀ (cur r : List UInt8), (∀ c ∈ x, Lib.isSp c = false) → cur ++ x ≠ [] → Lib.fieldsGo cur (x ++ 32 :: r) = (cur ++ x) :: Lib.fieldsGo [] r := by
  induction x with
  | nil =>
    intro cur r _ hne
    rw [List.append_nil] at hne
    rw [List.nil_append, Lib.fieldsGo_end cur 32 r rfl hne, List.append_nil]
  | cons c x ih =>
    intro cur r h hne
    rw [List.cons_append, Lib.fieldsGo_more cur c _ (h c (by simp)), ih (cur ++ [c]) r (fun c' h' => h c' (by simp [h'])) (by simp)]
    simp

theorem fields_blanks (W : List (List UInt8)) (h : ∀ x ∈ W, x ≠ [] ∧ ∀ c ∈ x, Lib.isSp c = false) : Lib.fields (blanks W) = W := by
  unfold Lib.fields
  induction W with
  | nil => rfl
  | cons x W ih =>
    have hx := h x (by simp)
    have e : blanks (x :: W) = x ++ 32 :: blanks W := rfl
    rw [e, fields_word x [] (blanks W) hx.2 (by simpa using hx.1), ih (fun y hy => h y (by simp [hy]))]
    rfl

theorem sp_digit (c : UInt8) (h : 48 ≤ c.toNat ∧ c.toNat ≤ 57) : Lib.isSp c = false := by
  have n1 : ∀ d : UInt8, d.toNat < 48 → (c == d) = false := by
    intro d hd
    rw [beq_eq_false_iff_ne]; intro e; rw [e] at h; omega
  unfold Lib.isSp
  rw [n1 9 (by decide), n1 10 (by decide), n1 11 (by decide), n1 12 (by decide), n1 13 (by decide), n1 32 (by decide)]
  rfl

theorem blanks_ascii (W : List (List UInt8)) (h : ∀ x ∈ W, ∀ c ∈ x, c.toNat < 128) : ∀ c ∈ blanks W, c.toNat < 128 := by
  induction W with
  | nil => intro c hc; exact absurd hc (by simp [blanks])
  | cons x W ih =>
    intro c hc
    have e : blanks (x :: W) = x ++ 32 :: blanks W := rfl
    rw [e, List.mem_append, List.mem_cons] at hc
    rcases hc with hc | rfl | hc
    · exact h x (by simp) c hc
    · decide
    · exact ih (fun y hy => h y (by simp [hy])) c hc

/-- what stands ahead of a right knot's colon falls into its words -/
theorem fields_show {k : K} (h : okK k = true) : Lib.fieldsD (blanks (wordsK k)) = wordsK k := by
  have hw : ∀ x ∈ wordsK k, x ≠ [] ∧ ∀ c ∈ x, 48 ≤ c.toNat ∧ c.toNat ≤ 57 := by
    intro x hx
    obtain ⟨n, hn, rfl⟩ := words_small h x hx
    exact ⟨dec_ne n (by omega), dec_digits n (by omega)⟩
  rw [Lib.fieldsD_ascii _ (blanks_ascii _ (fun x hx c hc => by have := (hw x hx).2 c hc; omega))]
  exact fields_blanks _ (fun x hx => ⟨(hw x hx).1, fun c hc => sp_digit c ((hw x hx).2 c hc)⟩)

/-! ### the first colon -/

theorem index_p (p r : List UInt8) (hp : (58 : UInt8) ∉ p) : Lib.index (p ++ 58 :: r) [58] = (p.length : Int) := by
  induction p with
  | nil => simp [Lib.index, List.isPrefixOf]
  | cons c p ih =>
    have h1 : (58 : UInt8) ∉ p := fun h => hp (by simp [h])
    have h2 : ((58 : UInt8) == c) = false := by
      rw [beq_eq_false_iff_ne]; intro e; exact hp (by simp [e])
    have h3 : ([58] : List UInt8).isPrefixOf (c :: (p ++ 58 :: r)) = false := by simp [List.isPrefixOf, h2]
    rw [List.cons_append, Lib.index, h3, ih h1]
    have h4 : (((p.length : Int)) == -1) = false := by rw [beq_eq_false_iff_ne]; omega
    rw [h4]; simp

theorem cut_p (p r : List UInt8) (hp : (58 : UInt8) ∉ p) : Lib.cut (p ++ 58 :: r) [58] = (p, r, true) := by
  unfold Lib.cut
  rw [index_p p r hp, if_pos (by omega), Int.toNat_natCast]
  simp

/-- what stands behind a right knot's colon -/
def tailK (k : K) : List UInt8 := if k.word.size = 0 then [] else 32 :: k.word.data.toList

theorem cut_showK {k : K} (h : okK k = true) : Lib.cut (showK k) [58] = (blanks (wordsK k), tailK k, true) := by
  rw [showK_eq]
  exact cut_p _ _ (blanks_no _ 58 (by decide) (words_no h 58 (by decide)))

theorem trim_tail (k : K) : Lib.trimPrefix (tailK k) [32] = k.word.data.toList := by
  unfold tailK
  by_cases hw : k.word.size = 0
  · rw [if_pos hw]
    have : k.word.data.toList = [] := List.length_eq_zero_iff.1 (by simpa using hw)
    rw [this]; rfl
  · rw [if_neg hw]
    simp [Lib.trimPrefix, Lib.hasPrefix]

/-! ### one text, one knot -/

theorem words_inj {a b : K} (ha : okK a = true) (hb : okK b = true) (h : wordsK a = wordsK b) : a.hand = b.hand ∧ a.round = b.round ∧ a.frm = b.frm := by
  obtain ⟨⟨a1, a2⟩, ⟨a3, a4⟩, ⟨a5, a6⟩, _⟩ := okK_parts ha
  obtain ⟨⟨b1, b2⟩, ⟨b3, b4⟩, ⟨b5, b6⟩, _⟩ := okK_parts hb
  unfold wordsK at h
  injection h with h1 h2
  injection h2 with h2 h3
  have e1 := dec_inj _ _ (by omega) (by omega) h1
  have e2 := dec_inj _ _ (by omega) (by omega) h2
  have e3 : Bit.memTo a.frm 60 = Bit.memTo b.frm 60 := by
    have hm : ∀ (l l' : List Int), (∀ m ∈ l, 0 ≤ m ∧ m < 60) → (∀ m ∈ l', 0 ≤ m ∧ m < 60) → l.map (fun m => dec m.toNat) = l'.map (fun m => dec m.toNat) → l = l' := by
      intro l
      induction l with
      | nil => intro l' _ _ e; cases l' with
        | nil => rfl
        | cons _ _ => simp at e
      | cons m l ih =>
        intro l' hl hl' e
        cases l' with
        | nil => simp at e
        | cons m' l' =>
          simp only [List.map_cons, List.cons.injEq] at e
          have hm1 := hl m (by simp)
          have hm2 := hl' m' (by simp)
          have := dec_inj _ _ (by omega) (by omega) e.1
          rw [ih l' (fun x hx => hl x (by simp [hx])) (fun x hx => hl' x (by simp [hx])) e.2]
          have : m = m' := by omega
          rw [this]
    exact hm _ _ (fun m hm => mem60 _ m hm) (fun m hm => mem60 _ m hm) h3
  refine ⟨by omega, by omega, ?_⟩
  rw [← fromTo_mem a.frm a5 a6, ← fromTo_mem b.frm b5 b6, e3]

theorem showK_inj {a b : K} (ha : okK a = true) (hb : okK b = true) (h : showK a = showK b) : a = b := by
  have h1 := cut_showK ha
  rw [h, cut_showK hb] at h1
  injection h1 with h2 h3
  injection h3 with h3 _
  have hw : wordsK a = wordsK b := by rw [← fields_show ha, ← h2, fields_show hb]
  have ht : a.word.data.toList = b.word.data.toList := by rw [← trim_tail a, ← h3, trim_tail b]
  obtain ⟨e1, e2, e3⟩ := words_inj ha hb hw
  have e4 : a.word = b.word := by rw [← B_data a.word, ht, B_data]
  cases a; cases b; simp only at e1 e2 e3 e4; subst e1 e2 e3 e4; rfl

theorem reads_unique {s : ByteArray} {k k' : K} {b b' : Bool} (h : ReadsK s k b) (h' : ReadsK s k' b') : k = k' ∧ b = b' := by
  rcases h with ⟨rfl, h1, h2⟩ | ⟨rfl, h1, h2⟩ <;> rcases h' with ⟨rfl, h1', h2'⟩ | ⟨rfl, h1', h2'⟩
  · exact ⟨showK_inj h1 h1' (h2.trans h2'.symm), rfl⟩
  · exact absurd h2 (h2' k h1)
  · exact absurd h2' (h2 k' h1')
  · exact ⟨h1.trans h1'.symm, rfl⟩

/-! ### joined -/

theorem join_cons2 (x y : List UInt8) (l : List (List UInt8)) (sep : List UInt8) : Lib.join (x :: y :: l) sep = x ++ (sep ++ Lib.join (y :: l) sep) := by
  simp [Lib.join, List.intercalate, List.intersperse]

theorem join_blanks (W : List (List UInt8)) (x : List UInt8) (l : List (List UInt8)) : Lib.join (W ++ x :: l) [32] = blanks W ++ Lib.join (x :: l) [32] := by
  induction W with
  | nil => rfl
  | cons a W ih =>
    have e : blanks (a :: W) = a ++ 32 :: blanks W := rfl
    cases W with
    | nil => rw [List.cons_append, List.nil_append, join_cons2, e]; simp [blanks]
    | cons b W => rw [List.cons_append, List.cons_append, join_cons2, ← List.cons_append, ih, e]; simp

/-- the parts of a knot's text -/
def partsK (k : K) : List (List UInt8) := wordsK k ++ ([58] :: if k.word.size = 0 then [] else [k.word.data.toList])
theorem join_show (k : K) : Lib.join (partsK k) [32] = showK k := by
  unfold partsK
  rw [join_blanks, showK_eq]
  by_cases hw : k.word.size = 0
  · simp only [hw, if_true]; rw [Lib.join_one]
  · simp only [hw, if_false]; rw [join_cons2, Lib.join_one]; rfl

end Kn
end Go.Proofs.YtiopckkcdmeagaaGreatDoor
