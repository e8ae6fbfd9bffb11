/-
  What the program's own LaceOk, CanTie, HandsOf and AtRound answer, in the words of LaceM, and the lace that it takes a list for, in memory of its own; words of at most 2^40 bytes.
-/
import Derived.Test.YtapfmadnkaimeaaDoorLaceU
namespace Go.Proofs.YtapfmadnkaimeaaDoor
open Go.RowKit
set_option maxRecDepth 100000
namespace Lc
open Kn (K okK)
open Bit (bit withB)

def cellsOf (k : K) : List Value := [.int .i64 k.hand, .int .i64 k.round, .int .i64 k.frm, .string k.word]
def flat (L : List K) : List Value := L.flatMap cellsOf
theorem flat_len (L : List K) : (flat L).length = L.length * 4 := by
  induction L with
  | nil => rfl
  | cons k L ih => unfold flat at *; rw [List.flatMap_cons, List.length_append, ih]; simp [cellsOf]; omega
theorem flat_snoc (L : List K) (k : K) : flat (L ++ [k]) = flat L ++ cellsOf k := by unfold flat; simp
theorem flat_one (L : List K) : ∀ u ∈ flat L, u.oneCell' = true := by
  intro u hu
  unfold flat at hu
  obtain ⟨k, _, hk⟩ := List.mem_flatMap.1 hu
  simp [cellsOf] at hk
  rcases hk with rfl | rfl | rfl | rfl <;> rfl
theorem flat_at (L : List K) (i c : Nat) (hi : i < L.length) (hc : c < 4) : (flat L)[i * 4 + c]? = (cellsOf (at' L i))[c]? := by
  induction L generalizing i with
  | nil => simp at hi
  | cons k L ih =>
    have e : flat (k :: L) = cellsOf k ++ flat L := by unfold flat; simp
    rw [e]
    cases i with
    | zero =>
      rw [List.getElem?_append_left (by simp [cellsOf]; omega)]
      simp [at', List.getD]
    | succ i =>
      rw [List.getElem?_append_right (by simp [cellsOf]; omega)]
      have : (i + 1) * 4 + c - (cellsOf k).length = i * 4 + c := by simp [cellsOf]; omega
      rw [this, ih i (by simpa using hi)]
      simp [at', List.getD]

/-- knots of the call's own, in a slice that is not nil -/
def OwnK (t : TypeId) (base : Nat) (w : World) (v : Value) (L : List K) : Prop := w.ownsRow base t 4 v L.length (flat L) ∧ v ≠ .slice none 0 0

theorem ownK_shape {t : TypeId} {base : Nat} {w : World} {v : Value} {L : List K} (h : OwnK t base w v L) : ∃ g cap, v = .slice (some ⟨g, 0, none⟩) L.length cap ∧ L.length ≤ cap ∧ cap ≤ maxLen ∧ base ≤ g ∧ g < w.heap.size ∧ RdK w (some ⟨g, 0, none⟩) L ∧ ∀ i, i < L.length * 4 → w.frozen? ⟨g, i, none⟩ = false := by
  obtain ⟨hown, hne⟩ := h
  have hlt := World.ownsRow.lt hown
  have hown' := hown
  obtain ⟨hl, ⟨hv0, _⟩ | ⟨g, cap, cur, hvs, hbg, hcur, hmc, hm, _, htake⟩⟩ := hown
  · exact absurd hv0 hne
  · subst hvs
    have hg := (hlt g rfl).2
    have hcell : ∀ j u, (flat L)[j]? = some u → w.cell? ⟨g, j, none⟩ = some u := by
      intro j u hj
      have := World.ownsRow.cells hown' (g := g) rfl j u hj
      by_cases hj0 : j = 0
      · subst hj0; simpa [Addr.add] using this
      · simpa [Addr.add, hj0] using this
    refine ⟨g, cap, rfl, hmc, hm, hbg, hg, ?_, fun i _ => World.ownsRow.frozenAt hown' i⟩
    refine .inr ⟨g, 0, rfl, hg, fun i hi => ?_⟩
    rw [Nat.zero_add]
    exact ⟨hcell (i * 4) _ (by have := flat_at L i 0 hi (by omega); simpa [cellsOf] using this), hcell (i * 4 + 1) _ (by have := flat_at L i 1 hi (by omega); simpa [cellsOf] using this),
      hcell (i * 4 + 2) _ (by have := flat_at L i 2 hi (by omega); simpa [cellsOf] using this), hcell (i * 4 + 3) _ (by have := flat_at L i 3 hi (by omega); simpa [cellsOf] using this)⟩

theorem ownK_below {t : TypeId} {base : Nat} {w w' : World} {v : Value} {L : List K} (h : OwnK t base w v L) (hb : Below w.heap.size w w') : OwnK t base w' v L := by
  refine ⟨?_, h.2⟩
  have hlt := World.ownsRow.lt h.1
  obtain ⟨h1, h2⟩ := h.1
  refine ⟨h1, ?_⟩
  rcases h2 with h2 | ⟨g, cap', cur, hv, hB, hg, rest⟩
  · exact .inl h2
  · refine .inr ⟨g, cap', cur, hv, hB, ?_, rest⟩
    rw [hb.block g (hlt g (by rw [hv]; rfl)).2]
    exact hg

theorem infoK : (Tryd.prog.info? 69).map (fun i => (i.zero, i.size, i.bytes)) = some (some (.agg #[.int .i64 0, .int .i64 0, .int .i64 0, .string ⟨#[]⟩]), 4, 40) := by kernel_rfl

theorem ownK_made (t : TypeId) (W : World) (z : Array Value) (c : Nat) (hc : c ≤ 1000) : OwnK t W.heap.size (W.alloc (.cells (madeCells z (c * 4)) t)) (.slice (some ⟨W.heap.size, 0, none⟩) 0 c) [] := by
  refine ⟨⟨rfl, .inr ⟨W.heap.size, c, madeCells z (c * 4), rfl, Nat.le_refl _, ?_, by simp, by unfold maxLen; omega, by rw [size_madeCells], rfl⟩⟩, by simp⟩
  show (W.heap.push _)[W.heap.size]? = _
  rw [Array.getElem?_push_size]

theorem new_cells (W : World) (k : K) (t : TypeId) : ∀ (j : Nat) u, (cellsOf k)[j]? = some u → (W.alloc (.cells #[.int .i64 k.hand, .int .i64 k.round, .int .i64 k.frm, .string k.word] t)).cell? ((⟨W.heap.size, 0, none⟩ : Addr).add j) = some u := by
  intro j u hj
  match j, hj with
  | 0, hj => simp [cellsOf] at hj; subst hj; simp [Addr.add]
  | 1, hj => simp [cellsOf] at hj; subst hj; simp [Addr.add]
  | 2, hj => simp [cellsOf] at hj; subst hj; simp [Addr.add]
  | 3, hj => simp [cellsOf] at hj; subst hj; simp [Addr.add]

theorem ownK_step {t : TypeId} {L : List K} {j : Nat} {w w4 w5 : World} {v v' : Value} {o : Obj} (hlt : j < L.length) (h : OwnK t w.heap.size w4 v (L.take j)) (hb : Below w.heap.size w w4)
    (hown : w5.ownsRow w.heap.size t 4 v' (j + 1) (flat (L.take j) ++ cellsOf (at' L j))) (hgrow : (w4.alloc o).grownBy w5 v.ownBlock) (hnil : ¬ v' = .slice none 0 0) :
    OwnK t w.heap.size w5 v' (L.take (j + 1)) ∧ Below w.heap.size w w5 := by
  refine ⟨⟨?_, hnil⟩, ?_⟩
  · have e : (L.take (j + 1)).length = j + 1 := by simp; omega
    rw [e, take_snoc L j hlt, flat_snoc]; exact hown
  · exact (hb.alloc hb.size o).grown hgrow (by have := hb.size; simp; omega) (fun i hi => (World.ownsRow.lt h.1 i hi).1)

/-- how the taking of a list ends -/
def LacePost (L : List K) (w : World) (e : Ending) (w' : World) : Prop :=
  (laceB L = true ∧ ∃ g, e = .returned (.tuple #[.slice (some ⟨g, 0, none⟩) L.length L.length, .bool true]) ∧ g < w'.heap.size ∧ RdK w' (some ⟨g, 0, none⟩) L ∧ Below w.heap.size w w') ∨
  (laceB L = false ∧ e = .returned (.tuple #[.slice none 0 0, .bool false]) ∧ Below w.heap.size w w')

set_option maxHeartbeats 3200000 in
theorem laceOf (g off cap : Nat) (L : List K) (w : World) (hlen : L.length ≤ 1099511627776) (hw : WordsOk L) (hr : RdK w (some ⟨g, off, none⟩) L) :
    Calls Tryd.prog 87 #[.slice (some ⟨g, off, none⟩) L.length cap] w (LacePost L w) := by
  obtain ⟨i0, hi, hz0, hz1, hz2⟩ := info_parts infoK
  have hmk : ∀ W : World, (Instr.makeSlice 58 (.int .i64 0) (.int .i64 60)).run Tryd.prog W = .ok (.slice (some ⟨W.heap.size, 0, none⟩) 0 60) (W.alloc (.cells (madeCells (Value.agg #[.int .i64 0, .int .i64 0, .int .i64 0, .string ⟨#[]⟩]).cells (60 * 4)) 69)) := by
    intro W
    have := run_make (P := Tryd.prog) W 58 69 i0 _ Tryd.underlying58 hi hz0 .i64 .i64 0 60 (by omega) (by omega) (by rw [hz2]; omega) (by omega)
    rw [hz1] at this
    exact this
  have P0 := ownK_made 69 w (Value.agg #[.int .i64 0, .int .i64 0, .int .i64 0, .string ⟨#[]⟩]).cells 60 (by omega)
  have HP : Hid (OwnK 69 w.heap.size (w.alloc (.cells (madeCells (Value.agg #[.int .i64 0, .int .i64 0, .int .i64 0, .string ⟨#[]⟩]).cells (60 * 4)) 69)) (.slice (some ⟨w.heap.size, 0, none⟩) 0 60) [] ∧ Below w.heap.size w (w.alloc (.cells (madeCells (Value.agg #[.int .i64 0, .int .i64 0, .int .i64 0, .string ⟨#[]⟩]).cells (60 * 4)) 69))) := ⟨P0, (Below.refl _ _).alloc (Nat.le_refl _) _⟩
  clear P0
  generalize (Value.agg #[.int .i64 0, .int .i64 0, .int .i64 0, .string ⟨#[]⟩]).cells = zc at hmk HP
  generalize madeCells zc (60 * 4) = mc at hmk HP
  go_enter Tryd.func87, Tryd.ntmps87
  go_wp2
  go_loopw [4, 10] (fun v i wr => ∃ j : Nat, j ≤ L.length ∧ j ≤ 60 ∧ i = .int .i64 j ∧ Hid (UpTo L j) ∧ Hid (OwnK 69 w.heap.size wr v (L.take j)) ∧ Hid (Below w.heap.size w wr)) (fun _ i _ => L.length - (intOf i).toNat)
  case atStart => exact ⟨0, by omega, by omega, rfl, fun i hi => by omega, HP.out.1, HP.out.2⟩
  case round =>
    obtain ⟨j, hj, hj60, rfl, HU, HO, HB⟩ := hrel
    have hlenj : (L.take j).length = j := by simp; omega
    obtain ⟨g', cap', hv, hcap', hcm, hbg, hgl, hrd', hfz⟩ := ownK_shape HO.out
    rw [hlenj] at hv hcap' hfz
    subst hv
    have hbw := HB.out.size
    by_cases hlt : j < L.length
    · have hrj := hr.below HB.out
      obtain ⟨hgw, c0, c1, c2, c3⟩ := hrj.on j hlt
      have hwj := hw _ (at_mem L j hlt)
      have P1 : Hid (Below wr.heap.size wr (wr.alloc (.cells #[.int .i64 (at' L j).hand, .int .i64 (at' L j).round, .int .i64 (at' L j).frm, .string (at' L j).word] 38)) ∧ CellsK (wr.alloc (.cells #[.int .i64 (at' L j).hand, .int .i64 (at' L j).round, .int .i64 (at' L j).frm, .string (at' L j).word] 38)) wr.heap.size 0 (at' L j) ∧ wr.heap.size < (wr.alloc (.cells #[.int .i64 (at' L j).hand, .int .i64 (at' L j).round, .int .i64 (at' L j).frm, .string (at' L j).word] 38)).heap.size) :=
        ⟨(Below.refl _ _).alloc (Nat.le_refl _) _, ⟨by simp, by simp, by simp, by simp⟩, by simp⟩
      clear hrj hfz
      go_wp2_with fail
      generalize wr.alloc (.cells #[.int .i64 (at' L j).hand, .int .i64 (at' L j).round, .int .i64 (at' L j).frm, .string (at' L j).word] 38) = w1 at P1 ⊢
      obtain ⟨B1, C1, S1⟩ := P1
      generalize hbb : wr.heap.size = b at *
      refine (Kn.knotOf _ _ _ _ _).mono ?_
      rintro e w2 ⟨rfl, hb2⟩
      have C2 := C1.below hb2 S1
      have S2 : b < w2.heap.size := Nat.lt_of_lt_of_le S1 hb2.size
      have B2 := B1.trans (hb2.mono (Nat.le_of_lt S1))
      have B2' : Below wr.heap.size wr w2 := by rw [hbb]; exact B2
      clear hb2 B1 S1 C1
      go_wp2_with fail
      have hT : Calls Tryd.prog 81 #[.slice (some ⟨g', 0, none⟩) j cap', .agg #[.int .i64 (at' L j).hand, .int .i64 (at' L j).round, .int .i64 (at' L j).frm, .string (at' L j).word]] w2 fun e w' => e = .returned (.bool (takesB (L.take j) (at' L j))) ∧ Below w2.heap.size w2 w' := by
        have := takes g' 0 cap' (L.take j) (at' L j) w2 (by omega) hwj (upTo_hands HU.out) (hrd'.below B2')
        rwa [hlenj] at this
      refine hT.mono ?_
      clear hT
      rintro e w3 ⟨rfl, hb3⟩
      have C3 := C2.below hb3 S2
      have S3 : b < w3.heap.size := Nat.lt_of_lt_of_le S2 hb3.size
      have B3 := B2.trans (hb3.mono (Nat.le_of_lt S2))
      have B3' : Below wr.heap.size wr w3 := by rw [hbb]; exact B3
      clear hb3 B2 B2' S2 C2
      obtain ⟨d0, d1, d2, d3⟩ := C3
      rw [Nat.zero_add] at d1 d2 d3
      cases ht : takesB (L.take j) (at' L j)
      · have HT : Hid (laceB L = false) := by
          show _ = _
          unfold takesB at ht
          rw [hlenj] at ht
          by_cases h60 : j < 60
          · simp [h60] at ht; exact lace_no j hlt ht
          · exact lace_long (by omega)
        clear ht
        have HBE : Hid (Below w.heap.size w w3) := HB.out.trans (B3'.mono HB.out.size)
        go_wp2
        go_ret2
        exact .inr ⟨HT.out, rfl, HBE.out⟩
      · have hcan : j < 60 ∧ canB (L.take j) (at' L j) = true := by
          unfold takesB at ht
          rw [hlenj] at ht
          simpa using ht
        obtain ⟨h60, hcan⟩ := hcan
        have HU1 : Hid (UpTo L (j + 1)) := by
          intro i hi
          by_cases he : i = j
          · rw [he]; exact hcan
          · exact HU.out i (by omega)
        clear ht hcan HU
        go_wp2_with fail
        refine (Kn.knotOf _ _ _ _ _).mono ?_
        rintro e w4 ⟨rfl, hb4⟩
        have B4 := B3.trans (hb4.mono (Nat.le_of_lt S3))
        have B4' : Below wr.heap.size wr w4 := by rw [hbb]; exact B4
        clear hb4 B3 B3' d0 d1 d2 d3
        have O4 := ownK_below HO.out B4'
        go_wp2_with (at_builtin; refine wpList_append_own _ rfl _ _ 58 rfl w.heap.size 69 i0 (.agg #[.int .i64 0, .int .i64 0, .int .i64 0, .string ⟨#[]⟩]) 4 40 Tryd.underlying58 hi hz0 hz1 hz2 rfl (by decide) _ _ _ rfl (O4.1.alloc _) ⟨w4.heap.size, 0, none⟩ 1 1 (cellsOf (at' L j)) rfl rfl ?c1 ?c2 ?c3 ?c4 ?c5 ?_)
        case c1 => exact new_cells w4 (at' L j) _
        case c2 => intro u hu; exact flat_one [at' L j] u (by simpa [flat] using hu)
        case c3 => unfold maxLen; omega
        case c4 => omega
        case c5 => have := B4'.size; simp; omega
        intro v' w5 hown' hgrow hnil
        have R := ownK_step hlt O4 (HB.out.trans (B4'.mono (by rw [hbb]; exact hbw))) hown' hgrow hnil
        have HO5 : Hid _ := R.1
        have HB5 : Hid _ := R.2
        clear hown' hgrow hnil O4 HO HB R hrd' hgl hcap' hcm
        go_wp2
        go_roundw
        case rel => exact ⟨j + 1, by omega, by omega, by go_num, HU1, HO5, HB5⟩
        case measure => simp [intOf]; omega
    · obtain rfl : j = L.length := by omega
      have HT : Hid (laceB L = true) := lace_of_upTo hj60 HU.out
      rw [List.take_length] at hrd'
      go_wp2
      go_ret2
      exact .inl ⟨HT.out, g', rfl, hgl, hrd', HB.out⟩

end Lc
end Go.Proofs.YtapfmadnkaimeaaDoor
