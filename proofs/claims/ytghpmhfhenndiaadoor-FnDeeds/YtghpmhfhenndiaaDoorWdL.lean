/-
  What the program's own writing and reading of numbers answers, and the tables and variables that chapter 16 stands on: the powers of ten, the kinds' names, the library's two errors.
-/
import Derived.Test.YtghpmhfhenndiaaDoorKnotQ
import Derived.Test.YtghpmhfhenndiaaDoorShelf
import Derived.Lib.ItoaNum
import Derived.Lib.ParseIntB
import Derived.Lib.Strings
import Derived.Lib.ParseIntBTie
import Derived.Lib.AtoiErrMem
import Derived.Lib.AppendIntMem
import Derived.WalkSmall
namespace Go.Proofs.YtghpmhfhenndiaaDoor
open Go.RowKit
set_option maxRecDepth 100000
set_option linter.unusedVariables false
namespace De
open Kn (dec B val dig dec_ind dec_small dec_big dec_digits dec_length dec_ne val_dec B_of B_list)

theorem gPow : Tryd.prog.globalNamed "internal/strconv.uint64pow10" = some 1 := by kernel_rfl
theorem gKind : Tryd.prog.globalNamed "loop.example/g00418/impl.kindNames" = some 0 := by kernel_rfl
/-- the kinds' names as the program's text lays them -/
def kindV : Array Value := #[.string ⟨#[]⟩, .string ⟨#[112, 117, 116]⟩, .string ⟨#[99, 117, 116]⟩, .string ⟨#[97, 100, 100]⟩, .string ⟨#[105, 102]⟩]

theorem var_keep {w w' : World} {n : String} {g : Nat} {cs : Array Value} (hg : Tryd.prog.globalNamed n = some g) (hb : Below w.heap.size w w') (h : w.var? Tryd.prog n = some cs) : w'.var? Tryd.prog n = some cs := by
  have hlt : g < w.heap.size := by
    unfold World.var? at h
    rw [hg] at h
    cases hh : w.heap[g]? with
    | none => simp [hh] at h
    | some o => exact (Array.getElem?_eq_some_iff.1 hh).1
  exact var?_below hb hg hlt h
theorem cell_keep {w w' : World} {a : Addr} {v : Value} (hb : Below w.heap.size w w') (h : w.cell? a = some v) : w'.cell? a = some v :=
  (hb.cell (block_lt_of_cell h)).trans h

/-- what writing stands on -/
structure TabP (w : World) : Prop where
  pow : Lib.TabIs Tryd.prog w "internal/strconv.uint64pow10" .u64 Lib.pow10Tab
  knd : w.var? Tryd.prog "loop.example/g00418/impl.kindNames" = some kindV
theorem TabP.below {w w' : World} (t : TabP w) (hb : Below w.heap.size w w') : TabP w' := ⟨var_keep gPow hb t.pow, var_keep gKind hb t.knd⟩
/-- what reading stands on, too -/
structure TabQ (w : World) : Prop where
  p : TabP w
  syn : ∃ tp p, w.cell? ⟨3, 0, none⟩ = some (.iface tp p)
  rng : ∃ tp p, w.cell? ⟨4, 0, none⟩ = some (.iface tp p)
  maxl : ∃ m, w.cell? ⟨2, 0, none⟩ = some (.int .i64 m)
theorem TabQ.below {w w' : World} (t : TabQ w) (hb : Below w.heap.size w w') : TabQ w' where
  p := t.p.below hb
  syn := by obtain ⟨tp, p, h⟩ := t.syn; exact ⟨tp, p, cell_keep hb h⟩
  rng := by obtain ⟨tp, p, h⟩ := t.rng; exact ⟨tp, p, cell_keep hb h⟩
  maxl := by obtain ⟨m, h⟩ := t.maxl; exact ⟨m, cell_keep hb h⟩
/-- one of the five names -/
theorem TabP.at {w : World} (t : TabP w) (i : Nat) (v : Value) (h : kindV[i]? = some v) : w.cell? ⟨0, i, none⟩ = some v := (World.var?_cell gKind t.knd i).trans h

theorem decDigits_dec : ∀ n, n < 100000000000 → Lib.decDigits n = dec n := by
  apply dec_ind
  · intro n h
    rw [dec_small n h, Lib.decDigits]
    simp only [h, dif_pos, dig]
    rw [Nat.mod_eq_of_lt h]
  · intro n h10 hn ih
    rw [dec_big n h10 hn, Lib.decDigits, dif_neg (by omega), ih]
    rfl

theorem itoa_dec (n : Nat) (h : n < 100000000000) : Lib.itoa (n : Int) = dec n := by
  unfold Lib.itoa
  rw [if_neg (by omega), Int.toNat_natCast, decDigits_dec n h]

theorem parse_ok (M : Nat) (hM : 1000000000000000000 ≤ M) (l : List UInt8) : ∀ (acc a : Nat), (∀ c ∈ l, 48 ≤ c.toNat ∧ c.toNat ≤ 57) → acc < 10 ^ a → a + l.length ≤ 18 →
    Lib.parseUintM M acc l = .ok (l.foldl (fun a c => a * 10 + (c.toNat - 48)) acc) := by
  induction l with
  | nil => intro acc a _ _ _; rfl
  | cons c r ih =>
    intro acc a hd hacc hlen
    have hc := hd c (by simp)
    have h17 : 10 ^ a ≤ 10 ^ 17 := Nat.pow_le_pow_right (by decide) (by simp at hlen; omega)
    have hp : acc * 10 + (c.toNat - 48) < 10 ^ (a + 1) := by rw [Nat.pow_succ]; omega
    have e17 : (10 : Nat) ^ 17 = 100000000000000000 := by decide
    rw [Lib.parseUintM, if_pos hc, if_neg (by omega), if_neg (by omega)]
    rw [ih (acc * 10 + (c.toNat - 48)) (a + 1) (fun c' h' => hd c' (by simp [h'])) hp (by simp at hlen; omega)]
    rfl

theorem parse_dec (m : Nat) (hm : m < 1000000000) : Lib.parseIntB 64 (dec m) = .ok (m : Int) := by
  have hd := dec_digits m (by omega)
  have hl := dec_length 8 m (by simpa using hm) (by omega)
  have hv := val_dec m (by omega)
  have hne := dec_ne m (by omega)
  have hu : Lib.parseUintB 64 (dec m) = .ok m := by
    unfold Lib.parseUintB
    rw [if_neg hne, parse_ok (2 ^ 64 - 1) (by decide) (dec m) 0 0 hd (by decide) (by omega)]
    rw [← hv]; simp only [val]
    rw [show (dec (List.foldl (fun a c => a * 10 + (c.toNat - 48)) 0 (dec m))) = dec m from by
      have := hv; unfold val at this; rw [this]]
  cases hc : dec m with
  | nil => exact absurd hc hne
  | cons c r =>
    have hcd := hd c (by rw [hc]; simp)
    rw [hc] at hu
    unfold Lib.parseIntB
    simp only [show ¬ (c.toNat = 43 ∨ c.toNat = 45) from by omega, if_false, hu]
    rw [if_neg (by intro ⟨_, h⟩; have e : (2 : Nat) ^ (64 - 1) = 9223372036854775808 := by decide
                   omega), if_neg (by intro ⟨h, _⟩; omega), if_neg (by omega)]

theorem showSmall (i : Nat) (hi : i < 100) (w : World) : Calls Tryd.prog 19 #[.int .i64 (i : Int)] w fun e w' => e = .returned (.string (B (dec i))) ∧ w = w' := by
  have HD : Hid ((⟨(Lib.decDigits i).toArray⟩ : ByteArray) = B (dec i)) := by
    show _ = _
    rw [decDigits_dec i (by omega)]; rfl
  go_enter Tryd.func19, Tryd.ntmps19
  go_wp2_with fail
  refine (Tryd.strconv_FormatInt_10_small i hi _).mono ?_
  rintro e w' ⟨rfl, rfl⟩
  rw [HD.out]
  go_wp2
  go_ret
  exact ⟨rfl, rfl⟩

theorem showNumber (n : Int) (h0 : -9223372036854775808 ≤ n) (h1 : n ≤ 9223372036854775807) (w : World) (t : TabP w) : Calls Tryd.prog 19 #[.int .i64 n] w fun e w' => e = .returned (.string (B (Lib.itoa n))) ∧ Below w.heap.size w w' := by
  go_enter Tryd.func19, Tryd.ntmps19
  go_wp2_with fail
  refine (Tryd.strconv_FormatInt_10 n h0 h1 _ t.pow).mono ?_
  rintro e w' ⟨rfl, k, os, rfl⟩
  have hb := Lib.below_grow w.heap.size w (Nat.le_refl _) k os
  generalize «Sort».grow (w.drewN k) os = w1 at hb ⊢
  go_wp2
  go_ret
  exact ⟨rfl, hb⟩

/-- what a reading promises -/
def Reads2 (s : ByteArray) (n : Int) (b : Bool) : Prop := ∀ m : Nat, m < 1000000000 → s = B (dec m) → n = (m : Int) ∧ b = true
def ReadPost2 (s : ByteArray) (w : World) (e : Ending) (w' : World) : Prop := ∃ n b, e = .returned (.tuple #[.int .i64 n, .bool b]) ∧ Reads2 s n b ∧ Below w.heap.size w w'
theorem readPost2_mk {s : ByteArray} {w w' : World} {e : Ending} (n : Int) (b : Bool) (he : e = .returned (.tuple #[.int .i64 n, .bool b])) (h : Reads2 s n b) (hb : Below w.heap.size w w') : ReadPost2 s w e w' := ⟨n, b, he, h, hb⟩

theorem trim_dec (m : Nat) (hm : m < 1000000000) : Lib.trimPrefix (dec m) [45] = dec m := by
  unfold Lib.trimPrefix
  have : Lib.hasPrefix (dec m) [45] = false := by
    cases hc : dec m with
    | nil => exact absurd hc (dec_ne m (by omega))
    | cons c r =>
      have hd := dec_digits m (by omega) c (by rw [hc]; simp)
      have : ((45 : UInt8) == c) = false := by
        rw [beq_eq_false_iff_ne]; intro e; rw [← e] at hd; exact absurd hd.1 (by decide)
      simp [Lib.hasPrefix, List.isPrefixOf, this]
  rw [this]; rfl

theorem no_trim (s : ByteArray) (h : 9 < (Lib.trimPrefix s.data.toList [45]).length) (m : Nat) (hm : m < 1000000000) : s ≠ B (dec m) := by
  intro e
  have hd := B_of s _ e
  rw [hd, trim_dec m hm] at h
  have hl := dec_length 8 m (by simpa using hm) (by omega)
  omega

set_option maxHeartbeats 1600000 in
theorem readNumber (s : ByteArray) (w : World) (t : TabQ w) (hs : s.size ≤ 1099511627776) : Calls Tryd.prog 37 #[.string s] w (ReadPost2 s w) := by
  go_enter Tryd.func37, Tryd.ntmps37
  go_wp2_with fail
  refine (Tryd.strings_TrimPrefix s _ _).mono ?_
  rintro e w' ⟨rfl, hw⟩
  subst w'
  have es : (⟨#[45]⟩ : ByteArray).data.toList = [45] := rfl
  rw [es]
  clear es
  have hsz : (⟨(Lib.trimPrefix s.data.toList [45]).toArray⟩ : ByteArray).size = (Lib.trimPrefix s.data.toList [45]).length := by simp [ByteArray.size]
  have hle := Lib.trimPrefix_le s.data.toList [45]
  have hle2 : s.data.toList.length = s.size := by simp
  rw [hle2] at hle
  clear hle2
  have HNT : Hid (9 < (Lib.trimPrefix s.data.toList [45]).length → ∀ m : Nat, m < 1000000000 → s ≠ B (dec m)) := no_trim s
  generalize (⟨(Lib.trimPrefix s.data.toList [45]).toArray⟩ : ByteArray) = tb at hsz ⊢
  rw [← hsz] at hle HNT
  clear hsz
  by_cases h9 : 9 < tb.size
  · have h9' : (9 : Int) < (tb.size : Int) := by omega
    have HN : Hid (∀ m : Nat, m < 1000000000 → s ≠ B (dec m)) := HNT.out h9
    go_wp2
    go_ret2
    exact readPost2_mk 0 false rfl (fun m hm e => absurd e (HN.out m hm)) (Below.refl _ _)
  · have h9' : ¬ (9 : Int) < (tb.size : Int) := by omega
    clear HNT
    cases hp : Lib.parseIntB 64 s.data.toList with
    | ok v =>
      have hbd := Lib.parseIntB_bounds hp
      have e63 : ((2 ^ (64 - 1) : Nat) : Int) = 9223372036854775808 := by decide
      rw [e63] at hbd
      have HR : Hid (∀ m : Nat, m < 1000000000 → s = B (dec m) → v = (m : Int) ∧ Lib.itoa v = s.data.toList) := by
        intro m hm e
        have hd := B_of s _ e
        rw [hd, parse_dec m hm] at hp
        injection hp with hp
        subst hp
        exact ⟨rfl, by rw [hd, itoa_dec m (by omega)]⟩
      go_wp2_with fail
      refine (Tryd.strconv_ParseInt_10_at64_ok s (by omega) v hp _).mono ?_
      rintro e w1 ⟨rfl, hw⟩
      have hb1 : Below w.heap.size w w1 := by
        rcases hw with rfl | ⟨tt, rfl⟩
        · exact Below.refl _ _
        · exact Lib.bytesWorld_below _ _ _
      clear hw hp e63
      have T1 := (t.below hb1).p
      go_wp2_with fail
      refine (showNumber v (by omega) (by omega) _ T1).mono ?_
      rintro e w2 ⟨rfl, hb2⟩
      have hb12 := hb1.trans (hb2.mono hb1.size)
      clear hb2 hb1 T1
      by_cases heq : Lib.itoa v = s.data.toList
      · have hsb : ((B (Lib.itoa v)).toList == s.toList) = true := by
          rw [B_list, heq, ByteArray.toList_eq, beq_iff_eq]
        clear heq
        go_wp2
        go_ret2
        exact readPost2_mk v true rfl (fun m hm e => ⟨(HR.out m hm e).1, rfl⟩) hb12
      · have hsb : ((B (Lib.itoa v)).toList == s.toList) = false := by
          rw [B_list, ByteArray.toList_eq, beq_eq_false_iff_ne]; exact heq
        have HH : Hid (Lib.itoa v ≠ s.data.toList) := heq
        clear heq
        go_wp2
        go_ret2
        exact readPost2_mk 0 false rfl (fun m hm e => absurd (HR.out m hm e).2 HH.out) hb12
    | «syntax» =>
      have HR : Hid (∀ m : Nat, m < 1000000000 → s ≠ B (dec m)) := by
        intro m hm e
        have hd := B_of s _ e
        rw [hd, parse_dec m hm] at hp
        cases hp
      obtain ⟨tp, p, hv⟩ := t.syn
      go_wp2_with fail
      refine (Tryd.strconv_ParseInt_10_at64_syntax s (by omega) hp _ _ hv (.inr ⟨_, _, rfl⟩)).mono ?_
      rintro e w1 ⟨N, rfl, _, _, hb1⟩
      clear hp hv
      go_wp2
      go_ret2
      exact readPost2_mk 0 false rfl (fun m hm e => absurd e (HR.out m hm)) hb1
    | range =>
      have HR : Hid (∀ m : Nat, m < 1000000000 → s ≠ B (dec m)) := by
        intro m hm e
        have hd := B_of s _ e
        rw [hd, parse_dec m hm] at hp
        cases hp
      obtain ⟨tp, p, hv⟩ := t.rng
      go_wp2_with fail
      refine (Tryd.strconv_ParseInt_10_at64_range s (by omega) hp _ _ hv (.inr ⟨_, _, rfl⟩)).mono ?_
      rintro e w1 ⟨N, rfl, _, _, hb1⟩
      clear hp hv
      go_wp2
      go_ret2
      exact readPost2_mk 0 false rfl (fun m hm e => absurd e (HR.out m hm)) hb1

end De
end Go.Proofs.YtghpmhfhenndiaaDoor
