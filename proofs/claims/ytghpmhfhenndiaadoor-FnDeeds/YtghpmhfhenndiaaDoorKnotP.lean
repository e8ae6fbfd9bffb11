/-
  What the model's splitting of a text answers: the pieces between the signs, in a list of the call's own; for texts of at most 2 to the 40 bytes.
-/
import Derived.Test.YtghpmhfhenndiaaDoorKnotS
namespace Go.Proofs.YtghpmhfhenndiaaDoor
open Go.RowKit
set_option maxRecDepth 100000
namespace Kn

def splitGo (by' : UInt8) : List UInt8 → List UInt8 → List (List UInt8)
  | cur, [] => [cur]
  | cur, c :: r => if c = by' then cur :: splitGo by' [] r else splitGo by' (cur ++ [c]) r
def split (by' : UInt8) (l : List UInt8) : List (List UInt8) := splitGo by' [] l

theorem infoS : (Tryd.prog.info? 9).map (fun i => (i.zero, i.size, i.bytes)) = some (some (.string ⟨#[]⟩), 1, 16) := by kernel_rfl

/-- a text as a cell -/
def S (l : List UInt8) : Value := .string (B l)

/-- a slice of the call's own that holds the texts L -/
def OwnS (base : Nat) (w : World) (ao : Option Addr) (cap : Nat) (L : List (List UInt8)) : Prop := w.ownsRow base 9 1 (.slice ao L.length cap) L.length (L.map S)

theorem ownS_shape {base : Nat} {w : World} {v : Value} {L : List (List UInt8)} (h : w.ownsRow base 9 1 v L.length (L.map S)) : ∃ ao cap, v = .slice ao L.length cap ∧ OwnS base w ao cap L := by
  have h' := h
  obtain ⟨_, ⟨hv, hn⟩ | ⟨g, cap, cur, hv, _⟩⟩ := h'
  · refine ⟨none, 0, by rw [hn]; exact hv, ?_⟩
    unfold OwnS; rw [hn] at h ⊢; rw [← hv]; exact h
  · refine ⟨some ⟨g, 0, none⟩, cap, hv, ?_⟩
    unfold OwnS; rw [← hv]; exact h

theorem relS_put {base : Nat} {w wr w1 : World} {v v' : Value} {o : Obj} {l : List (List UInt8)} {x : List UInt8} (hB : base ≤ wr.heap.size)
    (hown : wr.ownsRow base 9 1 v l.length (l.map S)) (hnx : Below base w wr)
    (hown' : w1.ownsRow base 9 1 v' (l.length + 1) (l.map S ++ [S x])) (hgrow : (wr.alloc o).grownBy w1 v.ownBlock) :
    w1.ownsRow base 9 1 v' (l ++ [x]).length ((l ++ [x]).map S) ∧ Below base w w1 ∧ base ≤ w1.heap.size := by
  have hbel := (hnx.alloc hB o).grown hgrow (by simp; omega) (fun j hj => (hown.lt j hj).1)
  refine ⟨by simpa using hown', hbel, ?_⟩
  have := hgrow.size; simp at this; omega

/-- s from f to k -/
def sub (s : ByteArray) (f k : Nat) : List UInt8 := (s.data.toList.drop f).take (k - f)
theorem sub_extract (s : ByteArray) (f k : Nat) (_h : f ≤ k) (_hk : k ≤ s.size) : s.extract f k = B (sub s f k) := by
  apply ByteArray.ext
  apply Array.ext'
  simp [B, sub, ByteArray.data_extract, Array.toList_extract, List.extract_eq_take_drop]
theorem sub_snoc (s : ByteArray) (f k : Nat) (h : f ≤ k) (hk : k < s.size) : sub s f (k + 1) = sub s f k ++ [s[k]] := by
  unfold sub
  have hk2 : k < s.data.toList.length := by simpa using hk
  rw [show k + 1 - f = (k - f) + 1 from by omega, List.take_succ_eq_append_getElem (by simp; omega)]
  congr 1
  simp only [List.getElem_drop]
  have e : f + (k - f) = k := by omega
  simp only [e]
  rfl
theorem sub_self (s : ByteArray) (k : Nat) : sub s k k = [] := by simp [sub]
theorem drop_get (s : ByteArray) (k : Nat) (hk : k < s.size) : s.data.toList.drop k = s[k] :: s.data.toList.drop (k + 1) := by
  have hk2 : k < s.data.toList.length := by simpa using hk
  rw [List.drop_eq_getElem_cons hk2]; rfl

theorem ownS_empty (w : World) : (w.alloc (.cells #[] 9)).ownsRow w.heap.size 9 1 (.slice (some ⟨w.heap.size, 0, none⟩) 0 0) 0 [] :=
  World.ownsRow_lit w #[] 0 (Nat.le_refl _) (by unfold maxLen; omega) rfl

/-- how far the splitting has come -/
def Upto (s : ByteArray) (by' : UInt8) (k f : Nat) (D : List (List UInt8)) : Prop :=
  D.length ≤ k ∧ ((k ≤ s.size ∧ f ≤ k ∧ split by' s.data.toList = D ++ splitGo by' (sub s f k) (s.data.toList.drop k)) ∨ (k = s.size + 1 ∧ D = split by' s.data.toList))

theorem upto_start (s : ByteArray) (by' : UInt8) : Upto s by' 0 0 [] := ⟨by simp, .inl ⟨by omega, by omega, by simp [split, sub]⟩⟩
theorem upto_hit (s : ByteArray) (by' : UInt8) (k f : Nat) (D : List (List UInt8)) (h : Upto s by' k f D) (hk : k < s.size) (hc : s[k] = by') : Upto s by' (k + 1) (k + 1) (D ++ [sub s f k]) := by
  obtain ⟨h1, ⟨_, h3, h4⟩ | ⟨h2, _⟩⟩ := h
  · refine ⟨by simp; omega, .inl ⟨by omega, by omega, ?_⟩⟩
    rw [h4, drop_get s k hk, splitGo, if_pos hc, sub_self]; simp
  · omega
theorem upto_miss (s : ByteArray) (by' : UInt8) (k f : Nat) (D : List (List UInt8)) (h : Upto s by' k f D) (hk : k < s.size) (hc : s[k] ≠ by') : Upto s by' (k + 1) f D := by
  obtain ⟨h1, ⟨_, h3, h4⟩ | ⟨h2, _⟩⟩ := h
  · refine ⟨by omega, .inl ⟨by omega, by omega, ?_⟩⟩
    rw [h4, drop_get s k hk, splitGo, if_neg hc, sub_snoc s f k h3 hk]
  · omega
theorem upto_end (s : ByteArray) (by' : UInt8) (f : Nat) (D : List (List UInt8)) (h : Upto s by' s.size f D) : Upto s by' (s.size + 1) (s.size + 1) (D ++ [sub s f s.size]) := by
  obtain ⟨h1, ⟨_, h3, h4⟩ | ⟨h2, _⟩⟩ := h
  · refine ⟨by simp; omega, .inr ⟨rfl, ?_⟩⟩
    rw [h4, List.drop_eq_nil_of_le (by simp), splitGo]
  · omega
theorem upto_f {s : ByteArray} {by' : UInt8} {k f : Nat} {D : List (List UInt8)} (h : Upto s by' k f D) (hk : k ≤ s.size) : f ≤ k := by
  obtain ⟨_, ⟨_, h3, _⟩ | ⟨h2, _⟩⟩ := h
  · exact h3
  · omega

set_option maxHeartbeats 3200000 in
theorem l1Split (s : ByteArray) (c : UInt8) (w : World) (hs : s.size ≤ 1099511627776) : Calls Tryd.prog 25 #[.string s, .int .u8 (c.toNat : Int)] w fun e w' =>
    ∃ ao cap, e = .returned (.slice ao (split c s.data.toList).length cap) ∧ OwnS w.heap.size w' ao cap (split c s.data.toList) ∧ Below w.heap.size w w' := by
  obtain ⟨i0, hi, hz0, hz1, hz2⟩ := info_parts infoS
  go_enter Tryd.func25, Tryd.ntmps25
  go_wp2
  go_loopw [5, 6, 7] (fun v fr i wr => ∃ (k f : Nat) (D : List (List UInt8)), k ≤ s.size + 1 ∧ i = .int .i64 k ∧ fr = .int .i64 f ∧ Hid (Upto s c k f D) ∧ wr.ownsRow w.heap.size 9 1 v D.length (D.map S) ∧ Below w.heap.size w wr ∧ w.heap.size ≤ wr.heap.size)
    (fun _ _ i _ => s.size + 1 - (intOf i).toNat)
  case atStart => exact ⟨0, 0, [], by omega, rfl, rfl, upto_start s c, ownS_empty w, (Below.refl _ _).alloc (Nat.le_refl _) _, by simp⟩
  case round =>
    obtain ⟨k, f, D, hk, rfl, rfl, HU, hown, hnx, hB⟩ := hrel
    have hDl := HU.out.1
    by_cases hle : k ≤ s.size
    · have hle' : (k : Int) ≤ (s.size : Int) := by omega
      have hf := upto_f HU.out hle
      have hf' : (f : Int) ≤ (k : Int) := by omega
      have HX : Hid (s.extract f k = B (sub s f k)) := sub_extract s f k hf hle
      by_cases hlt : k < s.size
      · have hlt' : ((k : Int) == (s.size : Int)) = false := by rw [beq_eq_false_iff_ne]; omega
        by_cases hc : s[k] = c
        · have HU' : Hid (Upto s c (k + 1) (k + 1) (D ++ [sub s f k])) := upto_hit s c k f D HU.out hlt hc
          have hcb : ((s[k].toNat : Int) == (c.toNat : Int)) = true := by rw [beq_iff_eq, hc]
          clear hc
          go_wp2_with (at_builtin; refine wpList_append_own _ rfl _ _ 46 rfl w.heap.size 9 i0 (.string ⟨#[]⟩) 1 16 Tryd.underlying46 hi hz0 hz1 hz2 rfl (by decide) _ _ _ rfl (hown.alloc _) ⟨wr.heap.size, 0, none⟩ 1 1 [.string (s.extract f k)] rfl rfl ?c1 ?c2 ?c3 ?c4 ?c5 ?_)
          case c1 =>
            intro j u hj
            match j, hj with
            | 0, hj => simp at hj; subst hj; simp [Addr.add]
          case c2 => intro u hu; simp at hu; subst hu; rfl
          case c3 => unfold maxLen; omega
          case c4 => omega
          case c5 => simp; omega
          intro v' w1 hown' hgrow _
          rw [HX.out] at hown'
          have R := relS_put hB hown hnx hown' hgrow
          clear hown' hgrow hown
          go_wp2
          go_roundw
          case rel => exact ⟨k + 1, k + 1, D ++ [sub s f k], by omega, by go_num, by go_num, HU', R.1, R.2.1, R.2.2⟩
          case measure => simp [intOf]; omega
        · have HU' : Hid (Upto s c (k + 1) f D) := upto_miss s c k f D HU.out hlt hc
          have hcb : ((s[k].toNat : Int) == (c.toNat : Int)) = false := by
            rw [beq_eq_false_iff_ne]; intro h; exact hc (UInt8.toNat_inj.1 (by omega))
          clear hc
          go_wp2
          go_roundw
          case rel => exact ⟨k + 1, f, D, by omega, by go_num, rfl, HU', hown, hnx, hB⟩
          case measure => simp [intOf]; omega
      · obtain rfl : k = s.size := by omega
        have HU' : Hid (Upto s c (s.size + 1) (s.size + 1) (D ++ [sub s f s.size])) := upto_end s c f D HU.out
        go_wp2_with (at_builtin; refine wpList_append_own _ rfl _ _ 46 rfl w.heap.size 9 i0 (.string ⟨#[]⟩) 1 16 Tryd.underlying46 hi hz0 hz1 hz2 rfl (by decide) _ _ _ rfl (hown.alloc _) ⟨wr.heap.size, 0, none⟩ 1 1 [.string (s.extract f s.size)] rfl rfl ?d1 ?d2 ?d3 ?d4 ?d5 ?_)
        case d1 =>
          intro j u hj
          match j, hj with
          | 0, hj => simp at hj; subst hj; simp [Addr.add]
        case d2 => intro u hu; simp at hu; subst hu; rfl
        case d3 => unfold maxLen; omega
        case d4 => omega
        case d5 => simp; omega
        intro v' w1 hown' hgrow _
        rw [HX.out] at hown'
        have R := relS_put hB hown hnx hown' hgrow
        clear hown' hgrow hown
        go_wp2
        go_roundw
        case rel => exact ⟨s.size + 1, s.size + 1, D ++ [sub s f s.size], by omega, by go_num, by go_num, HU', R.1, R.2.1, R.2.2⟩
        case measure => simp [intOf]
    · have hle' : ¬ (k : Int) ≤ (s.size : Int) := by omega
      have hD : D = split c s.data.toList := by
        obtain ⟨_, ⟨h2, _⟩ | ⟨_, h⟩⟩ := HU.out
        · omega
        · exact h
      rw [hD] at hown
      obtain ⟨ao, cap, hv, ho⟩ := ownS_shape hown
      have HV : Hid (u5 = .slice ao (split c s.data.toList).length cap) := hv
      clear hv hown hD
      go_wp2
      go_ret
      exact ⟨ao, cap, by rw [← HV.out]; rfl, ho, hnx⟩

end Kn
end Go.Proofs.YtghpmhfhenndiaaDoor
