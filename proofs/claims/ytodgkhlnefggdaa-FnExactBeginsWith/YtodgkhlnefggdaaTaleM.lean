/-
  Plain mathematics of order, of what is fresh and of tales: a tale begins with the tale of each of its chain, and the tales of two firm ones go the same way. No program in it.
-/
import Derived.Test.YtodgkhlnefggdaaChainM
import Derived.Test.YtodgkhlnefggdaaMemb
namespace Go.Proofs.Ytodgkhlnefggdaa
open Go.RowKit
set_option maxRecDepth 100000
namespace Tl
open Kn (K okK)
open Bit (bit withB memTo)
open Lc (at' laceB setB handsN hasHand roundS)
open Sg (isB bel)
open Db (dblN)
open Nd (nodN nodS)
open Sl (sealN sealS nodAt)
open Ch (leadK firmN earlierN chainL In)

/-- does y stand behind x? -/
def gtB (L : List K) (y x : Int) : Bool := decide ((at' L x.toNat).round < (at' L y.toNat).round) || (decide ((at' L y.toNat).round = (at' L x.toNat).round) && decide ((at' L x.toNat).hand < (at' L y.toNat).hand))
/-- put in from behind (the list is read from its end) -/
def insR (L : List K) (x : Int) : List Int → List Int
  | [] => [x]
  | y :: r => if gtB L y x then y :: insR L x r else x :: y :: r
/-- put in from behind -/
def insB (L : List K) (out : List Int) (x : Int) : List Int := (insR L x out.reverse).reverse
/-- by rounds, then by hands, then by numbers -/
def ordL (L : List K) (m : List Int) : List Int := m.foldl (insB L) []

theorem insR_perm (L : List K) (x : Int) (l : List Int) : (insR L x l).Perm (x :: l) := by
  induction l with
  | nil => exact List.Perm.refl _
  | cons y r ih =>
    unfold insR
    split
    · exact (List.Perm.cons y ih).trans (List.Perm.swap x y r)
    · exact List.Perm.refl _
theorem insB_perm (L : List K) (out : List Int) (x : Int) : (insB L out x).Perm (x :: out) := by
  unfold insB
  exact (List.reverse_perm _).trans ((insR_perm L x out.reverse).trans (List.Perm.cons x (List.reverse_perm out)))
theorem ord_fold_perm (L : List K) : ∀ (m out : List Int), (m.foldl (insB L) out).Perm (out ++ m) := by
  intro m
  induction m with
  | nil => intro out; simp
  | cons x m ih =>
    intro out
    rw [List.foldl_cons]
    refine (ih (insB L out x)).trans ?_
    refine ((insB_perm L out x).append_right m).trans ?_
    show (x :: (out ++ m)).Perm (out ++ x :: m)
    exact List.perm_middle.symm
theorem ord_perm (L : List K) (m : List Int) : (ordL L m).Perm m := by
  have := ord_fold_perm L m []
  simpa [ordL] using this
theorem mem_ord (L : List K) (m : List Int) (x : Int) : x ∈ ordL L m ↔ x ∈ m := (ord_perm L m).mem_iff
theorem ord_nodup (L : List K) {m : List Int} (h : m.Nodup) : (ordL L m).Nodup := (ord_perm L m).nodup_iff.2 h

/-- read from its end the list falls: what stands ahead is no greater -/
def Falls (L : List K) : List Int → Prop
  | [] => True
  | y :: r => (∀ z ∈ r, gtB L z y = false) ∧ Falls L r
theorem gt_total (L : List K) {x y : Int} (h : gtB L y x = true) : gtB L x y = false := by
  unfold gtB at h ⊢
  simp only [Bool.or_eq_true, Bool.and_eq_true, decide_eq_true_eq] at h
  rw [Bool.eq_false_iff]
  intro q
  simp only [Bool.or_eq_true, Bool.and_eq_true, decide_eq_true_eq] at q
  omega
theorem gt_trans (L : List K) {x y z : Int} (h1 : gtB L y x = false) (h2 : gtB L z y = false) : gtB L z x = false := by
  unfold gtB at h1 h2 ⊢
  rw [Bool.eq_false_iff] at h1 h2 ⊢
  simp only [ne_eq, Bool.or_eq_true, Bool.and_eq_true, decide_eq_true_eq] at h1 h2 ⊢
  omega
theorem insR_mem (L : List K) (x : Int) (l : List Int) (z : Int) : z ∈ insR L x l ↔ z = x ∨ z ∈ l := by
  rw [(insR_perm L x l).mem_iff, List.mem_cons]
theorem insR_falls (L : List K) (x : Int) : ∀ l : List Int, Falls L l → Falls L (insR L x l) := by
  intro l
  induction l with
  | nil => intro _; exact ⟨fun z hz => by simp at hz, trivial⟩
  | cons y r ih =>
    rintro ⟨h1, h2⟩
    unfold insR
    cases hg : gtB L y x
    · rw [if_neg (by simp)]
      refine ⟨fun z hz => ?_, h1, h2⟩
      rcases List.mem_cons.1 hz with e | e
      · subst e; exact hg
      · exact gt_trans L hg (h1 z e)
    · rw [if_pos rfl]
      refine ⟨fun z hz => ?_, ih h2⟩
      rcases (insR_mem L x r z).1 hz with e | e
      · subst e; exact gt_total L hg
      · exact h1 z e
theorem ord_falls (L : List K) : ∀ (m out : List Int), Falls L out.reverse → Falls L (m.foldl (insB L) out).reverse := by
  intro m
  induction m with
  | nil => intro out h; exact h
  | cons x m ih =>
    intro out h
    rw [List.foldl_cons]
    refine ih _ ?_
    unfold insB
    rw [List.reverse_reverse]
    exact insR_falls L x _ h
theorem falls_get (L : List K) : ∀ l : List Int, Falls L l.reverse → ∀ i j, i < j → j < l.length → gtB L (l.getD i 0) (l.getD j 0) = false := by
  suffices H : ∀ r : List Int, Falls L r → ∀ i j, i < j → j < r.length → gtB L (r.getD j 0) (r.getD i 0) = false by
    intro l h i j hij hj
    have := H l.reverse h (l.length - 1 - j) (l.length - 1 - i) (by omega) (by simp; omega)
    have e1 : l.reverse.getD (l.length - 1 - j) 0 = l.getD j 0 := by
      simp only [List.getD, List.getElem?_reverse (show l.length - 1 - j < l.length by omega)]
      rw [show l.length - 1 - (l.length - 1 - j) = j by omega]
    have e2 : l.reverse.getD (l.length - 1 - i) 0 = l.getD i 0 := by
      simp only [List.getD, List.getElem?_reverse (show l.length - 1 - i < l.length by omega)]
      rw [show l.length - 1 - (l.length - 1 - i) = i by omega]
    rwa [e1, e2] at this
  intro r
  induction r with
  | nil => intro _ i j _ hj; simp at hj
  | cons y r ih =>
    rintro ⟨h1, h2⟩ i j hij hj
    match i, j, hij with
    | 0, j + 1, _ =>
      have hj' : j < r.length := by simpa using hj
      simp only [List.getD_cons_succ, List.getD_cons_zero]
      exact h1 _ (by simp [List.getD, List.getElem?_eq_getElem hj'])
    | i + 1, j + 1, hij =>
      simp only [List.getD_cons_succ]
      exact ih h2 i j (by omega) (by simpa using hj)
/-- in order no one stands ahead of a lesser one -/
theorem ord_get (L : List K) (m : List Int) {i j : Nat} (hij : i < j) (hj : j < (ordL L m).length) : gtB L ((ordL L m).getD i 0) ((ordL L m).getD j 0) = false :=
  falls_get L _ (ord_falls L m [] trivial) i j hij hj

/-- fresh: below k, not below the earlier one, and k nods to it -/
def fresN (L : List K) (k : Nat) (e : Int) (b : Nat) : Bool := bit (bel L k) b && (!(decide (0 ≤ e) && bit (bel L e.toNat) b) && nodN L k b)
/-- those of the first that are fresh -/
def frS (L : List K) (k : Nat) (e : Int) : Nat → Int
  | 0 => 0
  | n + 1 => if fresN L k e n then withB (frS L k e n) n else frS L k e n
theorem frS_bd (L : List K) (k : Nat) (e : Int) (n : Nat) (hn : n ≤ 60) : 0 ≤ frS L k e n ∧ frS L k e n < 1152921504606846976 := by
  induction n with
  | zero => exact ⟨Int.le_refl 0, show (0 : Int) < 1152921504606846976 by decide⟩
  | succ n ih =>
    have h := ih (by omega)
    unfold frS; split
    · exact Bit.withB_bd _ h.1 h.2 n (by omega)
    · exact h
theorem bit_frS (L : List K) (k : Nat) (e : Int) (n : Nat) (hn : n ≤ 60) (j : Nat) : bit (frS L k e n) j = (decide (j < n) && fresN L k e j) := by
  induction n with
  | zero => show bit 0 j = _; rw [Lc.bit_zero]; simp
  | succ n ih =>
    have h := frS_bd L k e n (by omega)
    unfold frS
    cases hd : fresN L k e n
    · rw [if_neg (by simp), ih (by omega)]
      by_cases q : j = n
      · subst q; rw [hd]; simp
      · have : decide (j < n + 1) = decide (j < n) := by simp; omega
        rw [this]
    · rw [if_pos rfl, Bit.bit_withB _ h.1, ih (by omega)]
      by_cases q : j = n
      · subst q; rw [hd]; simp
      · have : decide (j < n + 1) = decide (j < n) := by simp; omega
        rw [this, decide_eq_false q, Bool.false_or]
/-- what is fresh, in order -/
def freshL (L : List K) (k e : Int) : List Int := ordL L (memTo (frS L k.toNat e L.length) 60)
theorem mem_fresh {L : List K} (h60 : L.length ≤ 60) (k e x : Int) : x ∈ freshL L k e ↔ ∃ j : Nat, x = (j : Int) ∧ j < L.length ∧ fresN L k.toNat e j = true := by
  unfold freshL
  rw [mem_ord, Bit.mem_memTo]
  constructor
  · rintro ⟨j, _, rfl, hb⟩
    rw [bit_frS L _ _ _ h60, Bool.and_eq_true, decide_eq_true_eq] at hb
    exact ⟨j, rfl, hb.1, hb.2⟩
  · rintro ⟨j, rfl, hj, hf⟩
    exact ⟨j, by omega, rfl, by rw [bit_frS L _ _ _ h60, decide_eq_true hj, hf]; rfl⟩

/-- leader by leader -/
def taleF (L : List K) (e : Int) : List Int → List Int
  | [] => []
  | c :: r => freshL L c e ++ taleF L c r
/-- the tale of one -/
def taleL (L : List K) (C : List Int) (k : Int) : List Int := taleF L (-1) (chainL L C k)
theorem taleF_append (L : List K) : ∀ (a b : List Int) (e : Int), ∃ rest, taleF L e (a ++ b) = taleF L e a ++ rest := by
  intro a
  induction a with
  | nil => intro b e; exact ⟨taleF L e b, rfl⟩
  | cons c a ih =>
    intro b e
    obtain ⟨r, hr⟩ := ih b c
    exact ⟨r, by show freshL L c e ++ taleF L c (a ++ b) = (freshL L c e ++ taleF L c a) ++ r; rw [hr, List.append_assoc]⟩

/-- the tale of one that is firm begins the tale of each later leader -/
theorem tale_along {L : List K} {bad : Int} (hG : Ag.Good L bad) {C : List Int} {s : Int} (hs : In L s) {f k : Nat} (hf : f < L.length) (hF : firmN L C s f = true) (hk : k < L.length) (hlk : leadK C (at' L k) = true) (hc : (at' L f).round < (at' L k).round ∨ k = f) : ∃ rest, taleL L C (k : Int) = taleL L C (f : Int) ++ rest := by
  obtain ⟨r, hr⟩ := Ch.chain_along hG hs hf hF k hk hlk hc
  unfold taleL
  rw [hr]
  exact taleF_append L _ _ _

/-- those that are firm, of the first -/
def firmL (L : List K) (C : List Int) (s : Int) : Nat → List Int
  | 0 => []
  | n + 1 => if firmN L C s n then firmL L C s n ++ [(n : Int)] else firmL L C s n
theorem mem_firm (L : List K) (C : List Int) (s : Int) (n : Nat) (x : Int) : x ∈ firmL L C s n ↔ ∃ k : Nat, x = (k : Int) ∧ k < n ∧ firmN L C s k = true := by
  induction n with
  | zero => unfold firmL; constructor; · intro h; simp at h
            · rintro ⟨k, _, hk, _⟩; omega
  | succ n ih =>
    unfold firmL
    cases hf : firmN L C s n
    · rw [if_neg (by simp), ih]
      constructor
      · rintro ⟨k, h1, h2, h3⟩; exact ⟨k, h1, by omega, h3⟩
      · rintro ⟨k, h1, h2, h3⟩
        have : k ≠ n := by intro e; subst e; rw [hf] at h3; exact Bool.noConfusion h3
        exact ⟨k, h1, by omega, h3⟩
    · rw [if_pos rfl, List.mem_append, ih]
      constructor
      · rintro (⟨k, h1, h2, h3⟩ | h)
        · exact ⟨k, h1, by omega, h3⟩
        · exact ⟨n, by simpa using h, by omega, hf⟩
      · rintro ⟨k, h1, h2, h3⟩
        by_cases e : k = n
        · subst e; exact .inr (by simp [h1])
        · exact .inl ⟨k, h1, by omega, h3⟩
/-- of a list the one of the greatest round, of some the first; -1: there is none -/
def lastT (L : List K) (l : List Int) : Int := l.foldl (fun out x => if out < 0 ∨ (at' L out.toNat).round < (at' L x.toNat).round then x else out) (-1)
theorem lastT_snoc (L : List K) (l : List Int) (x : Int) : lastT L (l ++ [x]) = if lastT L l < 0 ∨ (at' L (lastT L l).toNat).round < (at' L x.toNat).round then x else lastT L l := by
  unfold lastT; rw [List.foldl_append]; rfl
theorem last_spec (L : List K) (C : List Int) (s : Int) (n : Nat) :
    (lastT L (firmL L C s n) = -1 ∧ ∀ k, k < n → firmN L C s k = false) ∨ (∃ f : Nat, lastT L (firmL L C s n) = (f : Int) ∧ f < n ∧ firmN L C s f = true ∧ ∀ k, k < n → firmN L C s k = true → (at' L k).round ≤ (at' L f).round ∧ ((at' L k).round = (at' L f).round → f ≤ k)) := by
  induction n with
  | zero => exact .inl ⟨rfl, fun k hk => by omega⟩
  | succ n ih =>
    unfold firmL
    cases hf : firmN L C s n
    · rw [if_neg (by simp)]
      rcases ih with ⟨h1, h2⟩ | ⟨f, h1, h2, h3, h4⟩
      · refine .inl ⟨h1, fun k hk => ?_⟩
        by_cases e : k = n
        · subst e; exact hf
        · exact h2 k (by omega)
      · refine .inr ⟨f, h1, by omega, h3, fun k hk hkf => ?_⟩
        by_cases e : k = n
        · subst e; rw [hf] at hkf; exact Bool.noConfusion hkf
        · exact h4 k (by omega) hkf
    · rw [if_pos rfl, lastT_snoc]
      rcases ih with ⟨h1, h2⟩ | ⟨f, h1, h2, h3, h4⟩
      · rw [h1, if_pos (.inl (by omega))]
        refine .inr ⟨n, rfl, by omega, hf, fun k hk hkf => ?_⟩
        by_cases e : k = n
        · subst e; exact ⟨Int.le_refl _, fun _ => Nat.le_refl _⟩
        · rw [h2 k (by omega)] at hkf; exact Bool.noConfusion hkf
      · rw [h1, Int.toNat_natCast, Int.toNat_natCast]
        by_cases hr : (at' L f).round < (at' L n).round
        · rw [if_pos (.inr hr)]
          refine .inr ⟨n, rfl, by omega, hf, fun k hk hkf => ?_⟩
          by_cases e : k = n
          · subst e; exact ⟨Int.le_refl _, fun _ => Nat.le_refl _⟩
          · have := h4 k (by omega) hkf
            exact ⟨by omega, fun _ => by omega⟩
        · rw [if_neg (by omega)]
          refine .inr ⟨f, rfl, by omega, h3, fun k hk hkf => ?_⟩
          by_cases e : k = n
          · subst e; exact ⟨by omega, fun _ => by omega⟩
          · exact h4 k (by omega) hkf

/-- what is told of a set -/
def outL (L : List K) (C : List Int) (s : Int) : List Int := if lastT L (firmL L C s L.length) < 0 then [] else taleL L C (lastT L (firmL L C s L.length))

/-- what is told of two sets goes the same way -/
theorem out_along {L : List K} {bad : Int} (hG : Ag.Good L bad) {C : List Int} {s t : Int} (hs : In L s) (ht : In L t) : (∃ r, outL L C t = outL L C s ++ r) ∨ (∃ r, outL L C s = outL L C t ++ r) := by
  unfold outL
  rcases last_spec L C s L.length with ⟨h1, _⟩ | ⟨f, h1, hf, hF, _⟩
  · left; rw [h1, if_pos (show (-1 : Int) < 0 by omega)]; exact ⟨_, rfl⟩
  · rcases last_spec L C t L.length with ⟨h2, _⟩ | ⟨g, h2, hg, hF2, _⟩
    · right; rw [h2, if_pos (show (-1 : Int) < 0 by omega)]; exact ⟨_, rfl⟩
    · rw [h1, h2, if_neg (by omega), if_neg (by omega)]
      have lf : leadK C (at' L f) = true := by unfold Ch.firmN at hF; simp only [Bool.and_eq_true] at hF; exact hF.2.1
      have lg : leadK C (at' L g) = true := by unfold Ch.firmN at hF2; simp only [Bool.and_eq_true] at hF2; exact hF2.2.1
      by_cases q1 : (at' L f).round < (at' L g).round
      · exact .inl (tale_along hG hs hf hF hg lg (.inl q1))
      · by_cases q2 : (at' L g).round < (at' L f).round
        · exact .inr (tale_along hG ht hg hF2 hf lf (.inl q2))
        · have e : f = g := Ch.firm_one hG hs ht hf hg hF hF2 (by omega)
          subst e
          exact .inl ⟨[], by rw [List.append_nil]⟩

end Tl
end Go.Proofs.Ytodgkhlnefggdaa
