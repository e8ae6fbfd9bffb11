/-
  What the program's own reading of numbers answers: a number whose text it is, where there is one; the tables and variables of Go's library as they are laid.
-/
import Derived.Test.YtiopckkcdmeagaaGreatDoorKnotJ
import Derived.Lib.ParseIntBTie
import Derived.Lib.AtoiErrMem
import Derived.Lib.AppendIntMem
import Derived.WalkSmall
namespace Go.Proofs.YtiopckkcdmeagaaGreatDoor
open Go.RowKit
set_option maxRecDepth 100000
namespace Kn

theorem gAsc : Tryz.prog.globalNamed "strings.asciiSpace" = some 0 := by kernel_rfl
theorem gPow : Tryz.prog.globalNamed "internal/strconv.uint64pow10" = some 3 := by kernel_rfl

/-- the tables and variables of the library as its text lays them -/
structure Tabs (w : World) : Prop where
  asc : Lib.TabIs Tryz.prog w "strings.asciiSpace" .u8 Lib.asciiSpaceTab
  white : Lib.WhiteTab 1 w
  pow : Lib.TabIs Tryz.prog w "internal/strconv.uint64pow10" .u64 Lib.pow10Tab
  syn : ∃ tp p, w.cell? ⟨4, 0, none⟩ = some (.iface tp p)
  rng : ∃ tp p, w.cell? ⟨5, 0, none⟩ = some (.iface tp p)
  maxl : ∃ m, w.cell? ⟨2, 0, none⟩ = some (.int .i64 m)

theorem var_keep {w w' : World} {n : String} {g : Nat} {cs : Array Value} (hg : Tryz.prog.globalNamed n = some g) (hb : Below w.heap.size w w') (h : w.var? Tryz.prog n = some cs) : w'.var? Tryz.prog n = some cs := by
  have hlt : g < w.heap.size := by
    unfold World.var? at h
    rw [hg] at h
    cases hh : w.heap[g]? with
    | none => simp [hh] at h
    | some o => exact (Array.getElem?_eq_some_iff.1 hh).1
  exact var?_below hb hg hlt h

theorem cell_keep {w w' : World} {a : Addr} {v : Value} (hb : Below w.heap.size w w') (h : w.cell? a = some v) : w'.cell? a = some v :=
  (hb.cell (block_lt_of_cell h)).trans h

theorem Tabs.below {w w' : World} (t : Tabs w) (hb : Below w.heap.size w w') : Tabs w' where
  asc := var_keep gAsc hb t.asc
  white := WhiteTab_below t.white hb
  pow := var_keep gPow hb t.pow
  syn := by obtain ⟨tp, p, h⟩ := t.syn; exact ⟨tp, p, cell_keep hb h⟩
  rng := by obtain ⟨tp, p, h⟩ := t.rng; exact ⟨tp, p, cell_keep hb h⟩
  maxl := by obtain ⟨m, h⟩ := t.maxl; exact ⟨m, cell_keep hb h⟩

theorem showNumber (n : Int) (h0 : -9223372036854775808 ≤ n) (h1 : n ≤ 9223372036854775807) (w : World) (t : Tabs w) : Calls Tryz.prog 31 #[.int .i64 n] w fun e w' => e = .returned (.string (B (Lib.itoa n))) ∧ Below w.heap.size w w' := by
  go_enter Tryz.func31, Tryz.ntmps31
  go_wp2_with fail
  refine (Tryz.strconv_FormatInt_10 n h0 h1 _ t.pow).mono ?_
  rintro e w' ⟨rfl, k, os, rfl⟩
  have hb := Lib.below_grow w.heap.size w (Nat.le_refl _) k os
  generalize «Sort».grow (w.drewN k) os = w1 at hb ⊢
  go_wp2
  go_ret
  exact ⟨rfl, hb⟩

/-- what a reading promises -/
def Reads2 (s : ByteArray) (n : Int) (b : Bool) : Prop := ∀ m : Nat, m < 1000000000 → s = B (dec m) → n = (m : Int) ∧ b = true
def ReadPost2 (s : ByteArray) (w : World) (e : Ending) (w' : World) : Prop := ∃ n b, e = .returned (.tuple #[.int .i64 n, .bool b]) ∧ Reads2 s n b ∧ Below w.heap.size w w'
theorem readPost2_mk {s : ByteArray} {w w' : World} {e : Ending} (n : Int) (b : Bool) (he : e = .returned (.tuple #[.int .i64 n, .bool b])) (h : Reads2 s n b) (hb : Below w.heap.size w w') : ReadPost2 s w e w' := ⟨n, b, he, h, hb⟩

theorem trim_dec (m : Nat) (hm : m < 1000000000) : Lib.trimPrefix (dec m) [45] = dec m := by
  unfold Lib.trimPrefix
  have : Lib.hasPrefix (dec m) [45] = false := by
    cases hc : dec m with
    | nil => exact absurd hc (dec_ne m (by omega))
    | cons c r =>
      have hd := dec_digits m (by omega) c (by rw [hc]; simp)
      have : ((45 : UInt8) == c) = false := by
        rw [beq_eq_false_iff_ne]; intro e; rw [← e] at hd; exact absurd hd.1 (by decide)
      simp [Lib.hasPrefix, List.isPrefixOf, this]
  rw [this]; rfl

theorem no_trim (s : ByteArray) (h : 9 < (Lib.trimPrefix s.data.toList [45]).length) (m : Nat) (hm : m < 1000000000) : s ≠ B (dec m) := by
  intro e
  have hd := B_of s _ e
  rw [hd, trim_dec m hm] at h
  have hl := dec_length 8 m (by simpa using hm) (by omega)
  omega

set_option maxHeartbeats 1600000 in
theorem readNumber (s : ByteArray) (w : World) (t : Tabs w) (hs : s.size ≤ 1099511627776) : Calls Tryz.prog 57 #[.string s] w (ReadPost2 s w) := by
  go_enter Tryz.func57, Tryz.ntmps57
  go_wp2_with fail
  refine (Tryz.strings_TrimPrefix s _ _).mono ?_
  rintro e w' ⟨rfl, hw⟩
  subst w'
  have es : (⟨#[45]⟩ : ByteArray).data.toList = [45] := rfl
  rw [es]
  clear es
  have hsz : (⟨(Lib.trimPrefix s.data.toList [45]).toArray⟩ : ByteArray).size = (Lib.trimPrefix s.data.toList [45]).length := by simp [ByteArray.size]
  have hle := Lib.trimPrefix_le s.data.toList [45]
  have hle2 : s.data.toList.length = s.size := by simp
  rw [hle2] at hle
  clear hle2
  have HNT : Hid (9 < (Lib.trimPrefix s.data.toList [45]).length → ∀ m : Nat, m < 1000000000 → s ≠ B (dec m)) := no_trim s
  generalize (⟨(Lib.trimPrefix s.data.toList [45]).toArray⟩ : ByteArray) = tb at hsz ⊢
  rw [← hsz] at hle HNT
  clear hsz
  by_cases h9 : 9 < tb.size
  · have h9' : (9 : Int) < (tb.size : Int) := by omega
    have HN : Hid (∀ m : Nat, m < 1000000000 → s ≠ B (dec m)) := HNT.out h9
    go_wp2
    go_ret2
    exact readPost2_mk 0 false rfl (fun m hm e => absurd e (HN.out m hm)) (Below.refl _ _)
  · have h9' : ¬ (9 : Int) < (tb.size : Int) := by omega
    clear HNT
    cases hp : Lib.parseIntB 64 s.data.toList with
    | ok v =>
      have hbd := Lib.parseIntB_bounds hp
      have e63 : ((2 ^ (64 - 1) : Nat) : Int) = 9223372036854775808 := by decide
      rw [e63] at hbd
      have HR : Hid (∀ m : Nat, m < 1000000000 → s = B (dec m) → v = (m : Int) ∧ Lib.itoa v = s.data.toList) := by
        intro m hm e
        have hd := B_of s _ e
        rw [hd, parse_dec m hm] at hp
        injection hp with hp
        subst hp
        exact ⟨rfl, by rw [hd, itoa_dec m (by omega)]⟩
      go_wp2_with fail
      refine (Tryz.strconv_ParseInt_10_at64_ok s (by omega) v hp _).mono ?_
      rintro e w1 ⟨rfl, hw⟩
      have hb1 : Below w.heap.size w w1 := by
        rcases hw with rfl | ⟨tt, rfl⟩
        · exact Below.refl _ _
        · exact Lib.bytesWorld_below _ _ _
      clear hw hp e63
      have T1 := t.below hb1
      go_wp2_with fail
      refine (showNumber v (by omega) (by omega) _ T1).mono ?_
      rintro e w2 ⟨rfl, hb2⟩
      have hb12 := hb1.trans (hb2.mono hb1.size)
      clear hb2 hb1 T1
      by_cases heq : Lib.itoa v = s.data.toList
      · have hsb : ((B (Lib.itoa v)).toList == s.toList) = true := by
          rw [B_list, heq, ByteArray.toList_eq, beq_iff_eq]
        clear heq
        go_wp2
        go_ret2
        exact readPost2_mk v true rfl (fun m hm e => ⟨(HR.out m hm e).1, rfl⟩) hb12
      · have hsb : ((B (Lib.itoa v)).toList == s.toList) = false := by
          rw [B_list, ByteArray.toList_eq, beq_eq_false_iff_ne]; exact heq
        have HH : Hid (Lib.itoa v ≠ s.data.toList) := heq
        clear heq
        go_wp2
        go_ret2
        exact readPost2_mk 0 false rfl (fun m hm e => absurd (HR.out m hm e).2 HH.out) hb12
    | «syntax» =>
      have HR : Hid (∀ m : Nat, m < 1000000000 → s ≠ B (dec m)) := by
        intro m hm e
        have hd := B_of s _ e
        rw [hd, parse_dec m hm] at hp
        cases hp
      obtain ⟨tp, p, hv⟩ := t.syn
      go_wp2_with fail
      refine (Tryz.strconv_ParseInt_10_at64_syntax s (by omega) hp _ _ hv (.inr ⟨_, _, rfl⟩)).mono ?_
      rintro e w1 ⟨N, rfl, _, _, hb1⟩
      clear hp hv
      go_wp2
      go_ret2
      exact readPost2_mk 0 false rfl (fun m hm e => absurd e (HR.out m hm)) hb1
    | range =>
      have HR : Hid (∀ m : Nat, m < 1000000000 → s ≠ B (dec m)) := by
        intro m hm e
        have hd := B_of s _ e
        rw [hd, parse_dec m hm] at hp
        cases hp
      obtain ⟨tp, p, hv⟩ := t.rng
      go_wp2_with fail
      refine (Tryz.strconv_ParseInt_10_at64_range s (by omega) hp _ _ hv (.inr ⟨_, _, rfl⟩)).mono ?_
      rintro e w1 ⟨N, rfl, _, _, hb1⟩
      clear hp hv
      go_wp2
      go_ret2
      exact readPost2_mk 0 false rfl (fun m hm e => absurd e (HR.out m hm)) hb1

end Kn
end Go.Proofs.YtiopckkcdmeagaaGreatDoor
