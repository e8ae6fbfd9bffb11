/-
  What the program lays out hand by hand: those of a set that each hand tied; for laces of at most 60 knots, their hands 0 to 3.
-/
import Derived.Test.YtodgkhlnefggdaaGreatLaceB
import Derived.Test.YtodgkhlnefggdaaGreatDoubS
namespace Go.Proofs.YtodgkhlnefggdaaGreat
open Go.RowKit
set_option maxRecDepth 100000
namespace Nd
open Kn (K okK)
open Bit (bit withB)
open Lc (at' RdK amongI HandsOk)
open Db (RowI)

/-- those of a set, of the first n, that a hand tied -/
def hf (L : List K) (s h : Int) (n : Nat) : Int := amongI (fun k => decide (k.hand = h)) L s n

theorem hf_step (L : List K) (s h : Int) (n : Nat) : hf L s h (n + 1) = if bit s n && decide ((at' L n).hand = h) then withB (hf L s h n) n else hf L s h n := rfl
theorem hf_bd (L : List K) (s h : Int) (n : Nat) (hn : n ≤ 60) : 0 ≤ hf L s h n ∧ hf L s h n < 1152921504606846976 := Lc.among_bd _ L s n hn
theorem hf_miss (L : List K) (s : Int) (n : Nat) (hb : bit s n = false) : (fun h : Nat => hf L s h (n + 1)) = fun h : Nat => hf L s h n := by
  funext h; rw [hf_step, hb]; simp
theorem hf_hit (L : List K) (s : Int) (n m : Nat) (hb : bit s n = true) (hm : (at' L n).hand = (m : Int)) : (fun h : Nat => if h = m then withB (hf L s m n) n else hf L s h n) = fun h : Nat => hf L s h (n + 1) := by
  funext h; rw [hf_step, hb, hm]
  by_cases e : h = m
  · subst e; simp
  · have : ¬ ((m : Int) = (h : Int)) := by omega
    rw [if_neg e, decide_eq_false this]; simp

theorem rowI_alloc {w : World} {g n : Nat} {D : Nat → Int} (h : RowI w g n D) (o : Obj) : RowI (w.alloc o) g n D where
  lt := by have := h.lt; simp; omega
  rd := fun i hi => by rw [World.cell?_alloc_lt _ _ _ h.lt]; exact h.rd i hi
  fr := fun i hi => by rw [World.frozen?_alloc_past _ _ _ h.lt]; exact h.fr i hi
theorem rowI_other {w : World} {g n : Nat} {D : Nat → Int} (h : RowI w g n D) (c i : Nat) (hc : g ≠ c) (v : Value) : RowI (w.setCell ⟨c, i, none⟩ v) g n D where
  lt := by simpa using h.lt
  rd := fun j hj => (World.cell?_of_block (w := w) (Below.heap_setCell w ⟨c, i, none⟩ v g hc)).trans (h.rd j hj)
  fr := fun j hj => by rw [World.frozen?_setCell]; exact h.fr j hj

theorem rowI_four (w : World) (t : TypeId) : RowI (w.alloc (.cells #[.int .i64 0, .int .i64 0, .int .i64 0, .int .i64 0] t)) w.heap.size 4 (fun _ => 0) where
  lt := by simp
  rd := fun i hi => by
    match i, hi with
    | 0, _ => simp
    | 1, _ => simp
    | 2, _ => simp
    | 3, _ => simp
  fr := fun i hi => by
    match i, hi with
    | 0, _ => simp
    | 1, _ => simp
    | 2, _ => simp
    | 3, _ => simp

set_option maxHeartbeats 1600000 in
theorem handfulsOf (g off cap : Nat) (L : List K) (s : Int) (w : World) (hL : L.length ≤ 60) (hs : Base.okB s = true) (hh : HandsOk L) (hr : RdK w (some ⟨g, off, none⟩) L) :
    Calls Tryz.prog 110 #[.slice (some ⟨g, off, none⟩) L.length cap, .int .i64 s] w fun e w' =>
      e = .returned (.agg #[.int .i64 (hf L s 0 L.length), .int .i64 (hf L s 1 L.length), .int .i64 (hf L s 2 L.length), .int .i64 (hf L s 3 L.length)]) ∧ Below w.heap.size w w' := by
  have HO : Hid (Base.okB s = true) := hs
  have P0 : Hid (RowI ((w.alloc (.cells #[.int .i64 0, .int .i64 0, .int .i64 0, .int .i64 0] 125)).alloc (.cells #[.int .i64 0, .int .i64 0, .int .i64 0, .int .i64 0] 125)) w.heap.size 4 (fun _ => 0) ∧
      RowI ((w.alloc (.cells #[.int .i64 0, .int .i64 0, .int .i64 0, .int .i64 0] 125)).alloc (.cells #[.int .i64 0, .int .i64 0, .int .i64 0, .int .i64 0] 125)) (w.heap.size + 1) 4 (fun _ => 0) ∧
      Below w.heap.size w ((w.alloc (.cells #[.int .i64 0, .int .i64 0, .int .i64 0, .int .i64 0] 125)).alloc (.cells #[.int .i64 0, .int .i64 0, .int .i64 0, .int .i64 0] 125))) :=
    ⟨rowI_alloc (rowI_four w _) _, by have := rowI_four (w.alloc (.cells #[.int .i64 0, .int .i64 0, .int .i64 0, .int .i64 0] 125)) 125; simpa using this, ((Below.refl _ w).alloc (Nat.le_refl _) _).alloc (by simp) _⟩
  clear hs
  go_enter Tryz.func110, Tryz.ntmps110
  go_wp2
  go_loopw [10] (fun i wr => ∃ j : Nat, j ≤ L.length ∧ i = .int .i64 j ∧ Hid (RowI wr w.heap.size 4 (fun _ => 0)) ∧ Hid (RowI wr (w.heap.size + 1) 4 (fun h => hf L s h j)) ∧ Hid (Below w.heap.size w wr)) (fun i _ => L.length - (intOf i).toNat)
  case atStart => exact ⟨0, by omega, rfl, P0.out.1, P0.out.2.1, P0.out.2.2⟩
  case round =>
    obtain ⟨j, hj, rfl, HR, HF, HB⟩ := hrel
    clear P0
    by_cases hlt : j < L.length
    · obtain ⟨hg, hc⟩ := hr.on j hlt
      obtain ⟨c0, c1, c2, c3⟩ := hc.below HB.out hg
      have hin : Base.inB (j : Int) = true := (Base.inB_iff _).2 ⟨by omega, by omega⟩
      have hk := hh _ (Lc.at_mem L j hlt)
      cases hb : bit s j
      · have HH : Hid ((Base.okB s && (Base.inB (j : Int) && bit s j)) = false) := by show _ = _; simp [hb]
        have HD : Hid ((fun h : Nat => hf L s h (j + 1)) = fun h : Nat => hf L s h j) := hf_miss L s j hb
        clear hb hin hk
        go_wp2_with (go_at_call 24; refine (Base.has _ _ _).mono ?_; rintro e w' ⟨rfl, rfl⟩; rw [Int.toNat_natCast, HH.out])
        go_roundw
        case rel => exact ⟨j + 1, by omega, by go_num, rowI_alloc HR.out _, by show RowI _ _ _ _; rw [HD.out]; exact rowI_alloc HF.out _, HB.out.alloc HB.out.size _⟩
        case measure => simp [intOf]; omega
      · have HH : Hid ((Base.okB s && (Base.inB (j : Int) && bit s j)) = true) := by show _ = _; simp [hb, hin, HO.out]
        obtain ⟨m, hm⟩ := Int.eq_ofNat_of_zero_le hk.1
        have hm4 : m < 4 := by omega
        have HD : Hid ((fun h : Nat => if h = m then withB (hf L s m j) j else hf L s h j) = fun h : Nat => hf L s h (j + 1)) := hf_hit L s j m hb hm
        have hbd := hf_bd L s m j (by omega)
        have HW : Hid (Base.withI (hf L s m j) (j : Int) = withB (hf L s m j) j) := by
          show _ = _
          unfold Base.withI
          rw [(Base.okB_iff _).2 hbd, hin]; simp
        have HR1 : Hid (RowI (wr.alloc (.cells #[.int .i64 m, .int .i64 (at' L j).round, .int .i64 (at' L j).frm, .string (at' L j).word] 82)) w.heap.size 4 (fun _ => 0)) := rowI_alloc HR.out _
        have HF1 : Hid (RowI (wr.alloc (.cells #[.int .i64 m, .int .i64 (at' L j).round, .int .i64 (at' L j).frm, .string (at' L j).word] 82)) (w.heap.size + 1) 4 (fun h => hf L s h j)) := rowI_alloc HF.out _
        have HB1 : Hid (Below w.heap.size w (wr.alloc (.cells #[.int .i64 m, .int .i64 (at' L j).round, .int .i64 (at' L j).frm, .string (at' L j).word] 82))) := HB.out.alloc HB.out.size _
        have HK1 : Hid ((wr.alloc (.cells #[.int .i64 m, .int .i64 (at' L j).round, .int .i64 (at' L j).frm, .string (at' L j).word] 82)).cell? ⟨wr.heap.size, 0, none⟩ = some (.int .i64 m)) := by show _ = _; simp
        rw [hm] at c0
        clear hb hin hk hbd hm HR HF
        go_wp2_with (first | (go_at_call 24; refine (Base.has _ _ _).mono ?_; rintro e w' ⟨rfl, rfl⟩; rw [Int.toNat_natCast, HH.out]) | fail)
        clear HH c0 c1 c2 c3 hc
        generalize wr.alloc (.cells #[.int .i64 m, .int .i64 (at' L j).round, .int .i64 (at' L j).frm, .string (at' L j).word] 82) = V at HR1 HF1 HB1 HK1 ⊢
        generalize wr.heap.size = kb at HK1 ⊢
        have d0 := HK1.out
        have e1 := HF1.out.rd m hm4
        have f1 := HF1.out.fr m hm4
        have hmi : (m : Int) < 4 := by omega
        have HR2 : Hid (RowI (V.setCell ⟨w.heap.size + 1, m, none⟩ (.int .i64 (withB (hf L s m j) j))) w.heap.size 4 (fun _ => 0)) := rowI_other HR1.out _ _ (by omega) _
        have HF2 : Hid (RowI (V.setCell ⟨w.heap.size + 1, m, none⟩ (.int .i64 (withB (hf L s m j) j))) (w.heap.size + 1) 4 (fun h => hf L s h (j + 1))) := by
          show RowI _ _ _ _
          rw [← HD.out]; exact HF1.out.put m hm4 _
        have HB2 : Hid (Below w.heap.size w (V.setCell ⟨w.heap.size + 1, m, none⟩ (.int .i64 (withB (hf L s m j) j)))) := HB1.out.setCell (p := ⟨w.heap.size + 1, m, none⟩) (by simp) _
        clear HR1 HF1 HB1 HK1 HD
        generalize hf L s m j = x at e1 HW HR2 HF2 HB2
        go_region_with (go_at_call 83; refine (Base.withM _ _ _).mono ?_; rintro e w' ⟨rfl, rfl⟩; rw [HW.out])
        all_goals
          go_wp2
          go_roundw
          case rel => exact ⟨j + 1, by omega, by go_num, HR2.out.drew, HF2.out.drew, HB2.out.drew⟩
          case measure => simp [intOf]; omega
    · obtain rfl : j = L.length := by omega
      have r0 := HR.out.rd 0 (by omega)
      have r1 := HR.out.rd 1 (by omega)
      have r2 := HR.out.rd 2 (by omega)
      have r3 := HR.out.rd 3 (by omega)
      have q0 := HR.out.fr 0 (by omega)
      have q1 := HR.out.fr 1 (by omega)
      have q2 := HR.out.fr 2 (by omega)
      have q3 := HR.out.fr 3 (by omega)
      have f0 := HF.out.rd 0 (by omega)
      have f1 := HF.out.rd 1 (by omega)
      have f2 := HF.out.rd 2 (by omega)
      have f3 := HF.out.rd 3 (by omega)
      have HP4 : Hid (∀ x0 x1 x2 x3 : Int, ∃ W4, W4 = ((((wr.setCell ⟨w.heap.size, 0, none⟩ (.int .i64 x0)).setCell ⟨w.heap.size, 1, none⟩ (.int .i64 x1)).setCell ⟨w.heap.size, 2, none⟩ (.int .i64 x2)).setCell ⟨w.heap.size, 3, none⟩ (.int .i64 x3)) ∧
          W4.cell? ⟨w.heap.size, 0, none⟩ = some (.int .i64 x0) ∧ W4.cell? ⟨w.heap.size, 1, none⟩ = some (.int .i64 x1) ∧ W4.cell? ⟨w.heap.size, 2, none⟩ = some (.int .i64 x2) ∧ W4.cell? ⟨w.heap.size, 3, none⟩ = some (.int .i64 x3) ∧ Below w.heap.size w W4) := fun x0 x1 x2 x3 => by
        have h1 := (((HR.out.put 0 (by omega) x0).put 1 (by omega) x1).put 2 (by omega) x2).put 3 (by omega) x3
        refine ⟨_, rfl, h1.rd 0 (by omega), h1.rd 1 (by omega), h1.rd 2 (by omega), h1.rd 3 (by omega), ?_⟩
        exact (((HB.out.setCell (p := ⟨w.heap.size, 0, none⟩) (Nat.le_refl _) _).setCell (p := ⟨w.heap.size, 1, none⟩) (Nat.le_refl _) _).setCell (p := ⟨w.heap.size, 2, none⟩) (Nat.le_refl _) _).setCell (p := ⟨w.heap.size, 3, none⟩) (Nat.le_refl _) _
      go_wp2
      obtain ⟨W4, hW4, k0, k1, k2, k3, hB4⟩ := HP4.out (hf L s 0 L.length) (hf L s 1 L.length) (hf L s 2 L.length) (hf L s 3 L.length)
      rw [← hW4]
      refine bodyPost_ret (v := .agg #[.int .i64 (hf L s 0 L.length), .int .i64 (hf L s 1 L.length), .int .i64 (hf L s 2 L.length), .int .i64 (hf L s 3 L.length)]) (by simp [results, Tryz.f110, go_sem, k0, k1, k2, k3]) rfl ?_
      exact ⟨rfl, hB4⟩

end Nd
end Go.Proofs.YtodgkhlnefggdaaGreat
