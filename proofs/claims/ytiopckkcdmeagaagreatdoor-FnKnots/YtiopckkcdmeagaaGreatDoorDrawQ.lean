/-
  What the model's draws for chapter 2 answer: a knot whose word has at most 13 bytes, a text of at most 2000 bytes; they write into nothing that was there; for codes of at most 4096 bytes.
-/
import Derived.Test.YtiopckkcdmeagaaGreatDoorDrawK
import Derived.Test.YtiopckkcdmeagaaGreatDoorBend
import Derived.Test.YtiopckkcdmeagaaGreatDoorKnotJ
namespace Go.Proofs.YtiopckkcdmeagaaGreatDoor
open Go.RowKit
set_option maxRecDepth 100000
namespace Kn
open Cur (At)

theorem code_below {w w' : World} {a : Option Addr} {len : Nat} (h : Cur.Code w a len) (hb : Below w.heap.size w w') : Cur.Code w' a len := by
  rcases h with h | ⟨b, off, ha, hlt, hc⟩
  · exact .inl h
  · refine .inr ⟨b, off, ha, Nat.lt_of_lt_of_le hlt hb.size, fun j hj => ?_⟩
    obtain ⟨z, hz, hz'⟩ := hc j hj
    exact ⟨z, (hb.cell (p := ⟨b, off + j, none⟩) hlt).trans hz, hz'⟩

/-- a knot is drawn -/
def DrawnK (w : World) (e : Ending) (w' : World) : Prop := ∃ (h r f : Int) (s : ByteArray), e = .returned (.agg #[.int .i64 h, .int .i64 r, .int .i64 f, .string s]) ∧ s.size ≤ 13 ∧ Below w.heap.size w w'

set_option maxHeartbeats 1600000 in
theorem drawKnotOk (a : Option Addr) (len cap : Nat) (w : World) (hl : len ≤ 4096) (hc : Cur.Code w a len) : Calls Tryz.prog 13 #[.slice a len cap] w (DrawnK w) := by
  have B0 : Below w.heap.size w (w.alloc (.cells #[.int .i64 0, .int .i64 0, .int .i64 0, .string ⟨#[]⟩] 25)) := (Below.refl _ _).alloc (Nat.le_refl _) _
  have P0 : Hid (Below w.heap.size w (w.alloc (.cells #[.int .i64 0, .int .i64 0, .int .i64 0, .string ⟨#[]⟩] 25)) ∧ Zero w.heap.size (w.alloc (.cells #[.int .i64 0, .int .i64 0, .int .i64 0, .string ⟨#[]⟩] 25))) := ⟨B0, zero_new w _⟩
  clear B0
  go_enter Tryz.func13, Tryz.ntmps13
  go_wp2_with fail
  generalize w.alloc (.cells #[.int .i64 0, .int .i64 0, .int .i64 0, .string ⟨#[]⟩] 25) = w0 at P0 ⊢
  obtain ⟨B0, Z0⟩ := P0
  refine (Cur.new a len cap _ hl (code_below hc B0)).mono ?_
  rintro e w1 ⟨rfl, A1, b1⟩
  have Z1 := Z0.below b1
  have B1 := B0.trans (b1.mono B0.size)
  have hlt := Z0.lt
  clear b1 B0 Z0
  generalize w0.heap.size = c at A1 hlt ⊢
  go_wp2_with fail
  refine (draw c a len cap _ hl A1).mono ?_
  rintro e w2 ⟨h, r, f, s, rfl, hs, A2, g2⟩
  have Z2 := Z1.grown g2 (by omega)
  have B2 : Below w.heap.size w w2 := B1.grown g2 B1.size (fun k hk => by simp at hk; omega)
  clear g2 B1 Z1 A1 A2
  have f0 := Z2.f0
  have f1 := Z2.f1
  have f2 := Z2.f2
  have f3 := Z2.f3
  have r0 := Z2.r0
  have r1 := Z2.r1
  have r2 := Z2.r2
  have r3 := Z2.r3
  have HQ : Hid _ := Z2.put (.int .i64 h) (.int .i64 r) (.int .i64 f) (.string s)
  clear Z2
  go_wp2
  obtain ⟨q0, q1, q2, q3⟩ := HQ.out
  exact bodyPost_ret (v := .agg #[.int .i64 h, .int .i64 r, .int .i64 f, .string s]) (by simp [results, Tryz.results13, go_sem, q0, q1, q2, q3]) rfl ⟨h, r, f, s, rfl, hs, below_put B2 _ _ _ _⟩

set_option maxHeartbeats 1600000 in
theorem drawShowKnot (a : Option Addr) (len cap : Nat) (w : World) (hl : len ≤ 4096) (hc : Cur.Code w a len) : Calls Tryz.prog 5 #[.slice a len cap] w (DrawnK w) := by
  have B0 : Below w.heap.size w (w.alloc (.cells #[.int .i64 0, .int .i64 0, .int .i64 0, .string ⟨#[]⟩] 25)) := (Below.refl _ _).alloc (Nat.le_refl _) _
  have P0 : Hid (Below w.heap.size w (w.alloc (.cells #[.int .i64 0, .int .i64 0, .int .i64 0, .string ⟨#[]⟩] 25)) ∧ Zero w.heap.size (w.alloc (.cells #[.int .i64 0, .int .i64 0, .int .i64 0, .string ⟨#[]⟩] 25))) := ⟨B0, zero_new w _⟩
  clear B0
  go_enter Tryz.func5, Tryz.ntmps5
  go_wp2_with fail
  generalize w.alloc (.cells #[.int .i64 0, .int .i64 0, .int .i64 0, .string ⟨#[]⟩] 25) = w0 at P0 ⊢
  obtain ⟨B0, Z0⟩ := P0
  refine (drawKnotOk a len cap _ hl (code_below hc B0)).mono ?_
  rintro e w2 ⟨h, r, f, s, rfl, hs, b2⟩
  have Z2 := Z0.below b2
  have B2 := B0.trans (b2.mono B0.size)
  clear b2 B0 Z0
  have f0 := Z2.f0
  have f1 := Z2.f1
  have f2 := Z2.f2
  have f3 := Z2.f3
  have r0 := Z2.r0
  have r1 := Z2.r1
  have r2 := Z2.r2
  have r3 := Z2.r3
  have HQ : Hid _ := Z2.put (.int .i64 h) (.int .i64 r) (.int .i64 f) (.string s)
  clear Z2
  go_wp2
  obtain ⟨q0, q1, q2, q3⟩ := HQ.out
  exact bodyPost_ret (v := .agg #[.int .i64 h, .int .i64 r, .int .i64 f, .string s]) (by simp [results, Tryz.results5, go_sem, q0, q1, q2, q3]) rfl ⟨h, r, f, s, rfl, hs, below_put B2 _ _ _ _⟩

theorem ok_word {k : K} (h : okK k = true) : k.word.size ≤ 12 := by
  have := (okK_parts h).2.2.2.2
  unfold okW at this
  rw [Bool.and_eq_true] at this
  simpa using this.2

theorem textK_len (k : K) : (B (textK k)).size ≤ 1000 + k.word.size := by
  rw [B_size]
  unfold textK
  cases h : okK k
  · simp
  · obtain ⟨⟨h1, _⟩, ⟨h2, _⟩, _⟩ := okK_parts h
    obtain ⟨hand, round, frm, word⟩ := k
    simp only at h1 h2
    obtain ⟨a, rfl⟩ := Int.eq_ofNat_of_zero_le h1
    obtain ⟨b, rfl⟩ := Int.eq_ofNat_of_zero_le h2
    exact showK_len a b frm word

/-- a text is drawn -/
def DrawnT (w : World) (e : Ending) (w' : World) : Prop := ∃ t : ByteArray, e = .returned (.string t) ∧ t.size ≤ 2000 ∧ Below w.heap.size w w'

set_option maxHeartbeats 1600000 in
theorem drawReadKnot (a : Option Addr) (len cap : Nat) (w : World) (hl : len ≤ 4096) (hc : Cur.Code w a len) : Calls Tryz.prog 7 #[.slice a len cap] w (DrawnT w) := by
  go_enter Tryz.func7, Tryz.ntmps7
  go_wp2_with fail
  refine (Cur.new a len cap _ hl hc).mono ?_
  rintro e w1 ⟨rfl, A1, B1⟩
  go_wp2_with fail
  refine (draw _ a len cap _ hl A1).mono ?_
  rintro e w2 ⟨h, r, f, s, rfl, hs, A2, g2⟩
  have B2 := Draw.below_of_grown B1 (Nat.le_refl _) g2
  clear g2 B1 A1
  go_wp2_with fail
  refine (specShowKnot h r f s _ (by omega)).mono ?_
  rintro e w3 ⟨rfl, b3⟩
  have A3 := A2.below b3
  have B3 := B2.trans (b3.mono B2.size)
  have hlen := textK_len ⟨h, r, f, s⟩
  simp only at hlen
  clear b3 B2 A2
  generalize B (textK ⟨h, r, f, s⟩) = T at hlen ⊢
  go_wp2_with fail
  refine (Cur.once _ a len cap 2 _ hl (by omega) A3).mono ?_
  rintro e w4 ⟨b, rfl, A4, g4⟩
  have B4 := Draw.below_of_grown B3 (Nat.le_refl _) g4
  clear g4 B3 A3
  cases b
  · go_wp2
    go_ret
    exact ⟨T, rfl, by omega, B4⟩
  · go_wp2_with fail
    refine (Bend.bend _ a len cap T _ _ hl A4 (by omega) (by decide) (by decide)).mono ?_
    rintro e w5 ⟨t, rfl, ht, A5, g5⟩
    have B5 := Draw.below_of_grown B4 (Nat.le_refl _) g5
    clear g5 B4 A4
    go_wp2
    go_ret
    exact ⟨t, rfl, by omega, B5⟩

end Kn
end Go.Proofs.YtiopckkcdmeagaaGreatDoor
