/-
 What the laws' own small functions over lists of numbers answer: two that hold the same are alike, what is marked is held; for lists of at most a million numbers that the call itself made.
-/
import Derived.Test.YtflhaiakhfmmmaaGreatOMemb
import Derived.Deep.QuietTactic
import Derived.WalkSmall
namespace Go.Proofs.YtflhaiakhfmmmaaGreat
open Go.RowKit
set_option maxRecDepth 100000
namespace Lst
open Memb (Own)
def Rd (w : World) (ao : Option Addr) (l : List Int) : Prop := l = [] ∨ ∃ g, ao = some ⟨g, 0, none⟩ ∧ ∀ j, j < l.length → w.cell? ⟨g, j, none⟩ = some (.int .i64 (l.getD j 0))
theorem own_block {B : Nat} {w : World} {ao : Option Addr} {cap : Nat} {l : List Int} (h : Own B w ao cap l) (hl : l ≠ []) : ∃ g, ao = some ⟨g, 0, none⟩ ∧ B ≤ g ∧ g < w.heap.size := by
 have hlt := World.ownsRow.lt h
 obtain ⟨_, ⟨_, hn⟩ | ⟨g, cap', cur, hv, hB, _⟩⟩ := h
 · exact absurd (List.length_eq_zero_iff.1 hn) hl
 · simp only [Value.slice.injEq] at hv
   obtain ⟨rfl, _, _⟩ := hv
   exact ⟨g, rfl, hB, (hlt g rfl).2⟩
theorem own_rd {B : Nat} {w : World} {ao : Option Addr} {cap : Nat} {l : List Int} (h : Own B w ao cap l) : Rd w ao l := by
 by_cases hl : l = []
 · exact .inl hl
 · obtain ⟨g, rfl, _, _⟩ := own_block h hl
   refine .inr ⟨g, rfl, fun j hj => ?_⟩
   have := World.ownsRow.cellAt h j (by omega)
   rw [this]; simp [hj]
theorem own_below {B : Nat} {w w' : World} {ao : Option Addr} {cap : Nat} {l : List Int} (h : Own B w ao cap l) (hb : Below w.heap.size w w') : Own B w' ao cap l := by
 have hlt := World.ownsRow.lt h
 unfold Own at *
 obtain ⟨h1, h2⟩ := h
 refine ⟨h1, ?_⟩
 rcases h2 with h2 | ⟨g, cap', cur, hv, hB, hg, rest⟩
 · exact .inl h2
 · refine .inr ⟨g, cap', cur, hv, hB, ?_, rest⟩
   rw [hv] at hlt
   rw [hb.block g (hlt g rfl).2]; exact hg
set_option maxHeartbeats 800000 in
theorem alike (l : List Int) (a b : Option Addr) (ca cb : Nat) (w : World) (hn : l.length ≤ 1048576) (ha : Rd w a l) (hb : Rd w b l) :
   Calls Tryz.prog 9 #[.slice a l.length ca, .slice b l.length cb] w fun e w' => e = .returned (.bool true) ∧ ∃ n, w' = w.drewN n := by
 go_enter Tryz.func9, Tryz.ntmps9
 go_wp2
 go_loopw [5] (fun i wr => ∃ k n : Nat, k ≤ l.length ∧ i = .int .i64 k ∧ wr = w.drewN n) (fun i _ => l.length - (intOf i).toNat)
 case atStart => exact ⟨0, 0, by omega, rfl, rfl⟩
 case round =>
   obtain ⟨k, n, hkn, rfl, rfl⟩ := hrel
   by_cases hlt : k < l.length
   · rcases ha with h | ⟨g, rfl, hc⟩
     · exfalso; rw [h] at hlt; simp at hlt
     · rcases hb with h | ⟨g', rfl, hc'⟩
       · exfalso; rw [h] at hlt; simp at hlt
       · have h1 := hc k hlt
         have h2 := hc' k hlt
         clear hc hc'
         generalize l.getD k 0 = x at h1 h2
         go_wp2_with fail
         go_quiet (fail)
         go_wp2
         go_roundw
         case rel => exact ⟨k + 1, _, by omega, by go_num, rfl⟩
         case measure => simp [intOf]; omega
   · go_wp2
     go_ret
     exact ⟨rfl, n, rfl⟩
def inL (l : List Int) (x : Int) : Bool := l.contains x
theorem inL_iff (l : List Int) (x : Int) : inL l x = true ↔ x ∈ l := by simp [inL]
set_option maxHeartbeats 800000 in
theorem isIn (l : List Int) (x : Int) (a : Option Addr) (ca : Nat) (w : World) (hn : l.length ≤ 1048576) (ha : Rd w a l) :
   Calls Tryz.prog 26 #[.slice a l.length ca, .int .i64 x] w fun e w' => e = .returned (.bool (inL l x)) ∧ w = w' := by
 go_enter Tryz.func26, Tryz.ntmps26
 go_wp2
 go_loop [5] (fun i => ∃ k : Nat, k ≤ l.length ∧ i = .int .i64 k ∧ inL (l.take k) x = false) (fun i => l.length - (intOf i).toNat)
 case atStart => exact ⟨0, by omega, rfl, by simp [inL]⟩
 case round =>
   obtain ⟨k, hkn, rfl, hno⟩ := hrel
   have HN : Hid (inL (l.take k) x = false) := hno
   clear hno
   by_cases hlt : k < l.length
   · rcases ha with h | ⟨g, rfl, hc⟩
     · exfalso; rw [h] at hlt; simp at hlt
     · have h1 := hc k hlt
       have e : l.getD k 0 = l[k] := by simp [hlt]
       rw [e] at h1
       clear hc e
       have HE : Hid (l.take (k + 1) = l.take k ++ [l[k]]) := (List.take_succ_eq_append_getElem hlt)
       by_cases hx : l[k] = x
       · have HX : Hid (inL l x = true) := by
           show inL l x = true
           rw [inL_iff, ← hx]; exact List.getElem_mem hlt
         have hxb : (l[k] == x) = true := by simpa using hx
         generalize l[k] = y at *
         go_wp2
         go_ret
         exact ⟨Base.ret_bool HX.out.symm, rfl⟩
       · have hxb : (l[k] == x) = false := by simpa using hx
         have HX : Hid (inL (l.take (k + 1)) x = false) := by
           show inL (l.take (k + 1)) x = false
           have hn1 := HN.out
           unfold inL at hn1 ⊢
           rw [HE.out, List.contains_append, hn1]
           simpa using Ne.symm hx
         clear HE hx
         generalize l[k] = y at *
         go_wp2
         go_round
         case rel => exact ⟨k + 1, by omega, by go_num, HX.out⟩
         case measure => simp [intOf]; omega
   · have hk : l.take k = l := List.take_of_length_le (by omega)
     have HX : Hid (inL l x = false) := by
       show inL l x = false
       rw [← HN.out, hk]
     clear hk
     go_wp2
     go_ret
     exact ⟨Base.ret_bool HX.out.symm, rfl⟩
end Lst
end Go.Proofs.YtflhaiakhfmmmaaGreat
