/-
  What the program's own functions on a lace answer: those of a round, how many hands, whether a lace bears and takes a knot, and the lace that it takes a list for, in memory of its own; words of at most 2^40 bytes.
-/
import Derived.Test.YtapfmadnkaimeaaDoorLaceA
import Derived.Test.YtapfmadnkaimeaaDoorLike
namespace Go.Proofs.YtapfmadnkaimeaaDoor
open Go.RowKit
set_option maxRecDepth 100000
namespace Lc
open Kn (K okK)
open Bit (bit withB)

set_option maxHeartbeats 400000 in
theorem atRound (g off cap : Nat) (L : List K) (s r : Int) (w : World) (hL : L.length ≤ 60) (hs : Base.okB s = true) (hr : RdK w (some ⟨g, off, none⟩) L) :
    Calls Tryd.prog 102 #[.slice (some ⟨g, off, none⟩) L.length cap, .int .i64 s, .int .i64 r] w fun e w' => e = .returned (.int .i64 (roundS L s r)) ∧ Below w.heap.size w w' := by
  have B0 : Below w.heap.size w (w.alloc (.cells #[.int .i64 r] 2)) := (Below.refl _ _).alloc (Nat.le_refl _) _
  go_enter Tryd.func102, Tryd.ntmps102
  go_wp2_with fail
  refine (amongRound g off cap L s w.heap.size r _ hL hs (hr.below B0) (by simp) (by simp)).mono ?_
  rintro e w1 ⟨rfl, hb1⟩
  have B1 := B0.trans (hb1.mono (by simp))
  clear hb1 B0
  go_wp2
  go_ret
  exact ⟨rfl, B1⟩

theorem round_bd (L : List K) (s r : Int) (hL : L.length ≤ 60) : 0 ≤ roundS L s r ∧ roundS L s r < 1152921504606846976 ∧ roundS L s r / 2 ^ L.length = 0 := by
  have hb := among_bd (fun k => decide (k.round = r)) L s L.length hL
  refine ⟨hb.1, hb.2, div_of_bits _ _ hb.1 fun i hi => ?_⟩
  unfold roundS
  rw [bit_among _ _ _ _ hL]
  simp; omega

theorem take_snocI (l : List Int) (j : Nat) (h : j < l.length) : l.take (j + 1) = l.take j ++ [l.getD j 0] := by
  rw [List.take_succ_eq_append_getElem h]; simp [List.getD, List.getElem?_eq_getElem h]

theorem mem_in (L : List K) (s : Int) (h0 : 0 ≤ s) (hd : s / 2 ^ L.length = 0) : ∀ i ∈ Bit.memTo s 60, 0 ≤ i ∧ i < (L.length : Int) := by
  intro i hi
  obtain ⟨j, _, rfl, hj⟩ := (Bit.mem_memTo s 60 i).1 hi
  refine ⟨by omega, ?_⟩
  apply Classical.byContradiction
  intro hc
  rw [bit_hi s _ h0 hd j (by omega)] at hj
  exact Bool.noConfusion hj

set_option maxHeartbeats 1600000 in
theorem hands (g off cap : Nat) (L : List K) (s : Int) (w : World) (hL : L.length ≤ 60) (h0 : 0 ≤ s) (h1 : s < 1152921504606846976) (hd : s / 2 ^ L.length = 0) (hh : HandsOk L) (hr : RdK w (some ⟨g, off, none⟩) L) :
    Calls Tryd.prog 101 #[.slice (some ⟨g, off, none⟩) L.length cap, .int .i64 s] w fun e w' => e = .returned (.int .i64 (handsN L s)) ∧ Below w.heap.size w w' := by
  have hok : Base.okB s = true := (Base.okB_iff s).2 ⟨h0, h1⟩
  have hmem : Memb.memI s = Bit.memTo s 60 := by unfold Memb.memI; rw [hok]; rfl
  have hin := mem_in L s h0 hd
  have HT : Hid (((Bit.memTo (found L (Bit.memTo s 60)) 60).length : Int) = handsN L s) := found_hands L s hL hh h0 hd
  go_enter Tryd.func101, Tryd.ntmps101
  go_wp2_with fail
  refine (Memb.picked s _).mono ?_
  rintro e w1 ⟨ao, ca, rfl, hown, hb1⟩
  rw [hmem] at hown ⊢
  have hr1 := hr.below hb1
  have hrd := Lst.own_rd hown
  have hle : (Bit.memTo s 60).length ≤ 60 := Bit.memTo_le s 60
  have HI : Hid (∀ i ∈ Bit.memTo s 60, 0 ≤ i ∧ i < (L.length : Int)) := hin
  clear hown hmem hok hin h0 h1 hd
  generalize Bit.memTo s 60 = l at HT hrd hle HI ⊢
  go_wp2
  go_loop [5, 12] (fun o i => ∃ j : Nat, j ≤ l.length ∧ i = .int .i64 j ∧ o = .int .i64 (found L (l.take j))) (fun _ i => l.length - (intOf i).toNat)
  case atStart => exact ⟨0, by omega, rfl, rfl⟩
  case round =>
    obtain ⟨j, hj, rfl, rfl⟩ := hrel
    have HF : Hid (0 ≤ found L (l.take j) ∧ found L (l.take j) < 16) := found_bd L _ hh (fun i hi => HI.out i (List.mem_of_mem_take hi))
    by_cases hlt : j < l.length
    · rcases hrd with hrd | ⟨b, rfl, hcell⟩
      · rw [hrd] at hlt; simp at hlt
      have cj := hcell j hlt
      have hx := HI.out (l.getD j 0) (by simp [List.getD, List.getElem?_eq_getElem hlt])
      have HS : Hid (found L (l.take (j + 1)) = withB (found L (l.take j)) (at' L (l.getD j 0).toNat).hand.toNat) := by
        show _ = _
        rw [take_snocI l j hlt, found_snoc]
      generalize l.getD j 0 = x at cj hx HS
      obtain ⟨m, rfl⟩ := Int.eq_ofNat_of_zero_le hx.1
      have hm : m < L.length := by omega
      obtain ⟨_, c0, _, _, _⟩ := hr1.on m hm
      have hk := hh _ (at_mem L m hm)
      have HW : Hid (Base.withI (found L (l.take j)) (at' L m).hand = found L (l.take (j + 1))) := by
        show _ = _
        rw [HS.out, Int.toNat_natCast]
        unfold Base.withI
        rw [(Base.okB_iff _).2 ⟨HF.out.1, by have := HF.out.2; omega⟩, (Base.inB_iff _).2 ⟨hk.1, by omega⟩]; simp
      clear hcell HS hk HF
      go_wp2_with (go_at_call 63; refine (Base.withM _ _ _).mono ?_; rintro e w' ⟨rfl, rfl⟩; rw [HW.out])
      go_round
      case rel => exact ⟨j + 1, by omega, by go_num, rfl⟩
      case measure => simp [intOf]; omega
    · obtain rfl : j = l.length := by omega
      have e : l.take l.length = l := List.take_length
      rw [e] at HF ⊢
      go_wp2_with fail
      refine (Memb.size _ _ HF.out.1 (by have := HF.out.2; omega)).mono ?_
      rintro e w2 ⟨rfl, rfl⟩
      rw [HT.out]
      go_wp2
      go_ret
      exact ⟨rfl, hb1⟩

set_option maxHeartbeats 1600000 in
theorem bears (g off cap : Nat) (L : List K) (k : K) (w : World) (hL : L.length ≤ 60) (hk : okK k = true) (hh : HandsOk L) (hr : RdK w (some ⟨g, off, none⟩) L) :
    Calls Tryd.prog 109 #[.slice (some ⟨g, off, none⟩) L.length cap, .agg #[.int .i64 k.hand, .int .i64 k.round, .int .i64 k.frm, .string k.word]] w fun e w' => e = .returned (.bool (bearsB L k)) ∧ Below w.heap.size w w' := by
  have hf := ok_frm hk
  have hrd := ok_round hk
  have HOK : Hid (Base.okB k.frm = true) := (Base.okB_iff _).2 hf
  have HB : Hid (bearsB L k = (decide (k.round = 0) || (decide (amongI (fun x => decide (x.round < k.round)) L k.frm L.length = k.frm) && decide (3 ≤ handsN L (roundS L k.frm (k.round - 1)))))) := rfl
  have P0 : Hid (Below w.heap.size w (w.alloc (.cells #[.int .i64 k.hand, .int .i64 k.round, .int .i64 k.frm, .string k.word] 69)) ∧ CellsK (w.alloc (.cells #[.int .i64 k.hand, .int .i64 k.round, .int .i64 k.frm, .string k.word] 69)) w.heap.size 0 k ∧ w.heap.size < (w.alloc (.cells #[.int .i64 k.hand, .int .i64 k.round, .int .i64 k.frm, .string k.word] 69)).heap.size) :=
    ⟨(Below.refl _ _).alloc (Nat.le_refl _) _, ⟨by simp, by simp, by simp, by simp⟩, by simp⟩
  clear hk
  by_cases hz : k.round = 0
  · have HT : Hid (bearsB L k = true) := by show _ = _; rw [HB.out]; simp [hz]
    have hz' : (k.round == 0) = true := by simpa using hz
    clear hz
    go_enter Tryd.func109, Tryd.ntmps109
    go_wp2
    go_ret
    exact ⟨by rw [HT.out]; rfl, P0.out.1⟩
  · have HT : Hid (bearsB L k = (decide (amongI (fun x => decide (x.round < k.round)) L k.frm L.length = k.frm) && decide (3 ≤ handsN L (roundS L k.frm (k.round - 1))))) := by show _ = _; rw [HB.out]; simp [hz]
    have hz' : (k.round == 0) = false := by simpa using hz
    clear hz HB
    go_enter Tryd.func109, Tryd.ntmps109
    go_wp2_with fail
    generalize w.alloc (.cells #[.int .i64 k.hand, .int .i64 k.round, .int .i64 k.frm, .string k.word] 69) = w0 at P0 ⊢
    obtain ⟨B0, C0, S0⟩ := P0
    generalize hb : w.heap.size = b at *
    have hr0 : RdK w0 (some ⟨g, off, none⟩) L := hr.below (by rw [hb]; exact B0)
    refine (amongLess g off cap L k.frm b k _ hL HOK.out hr0 S0 C0).mono ?_
    rintro e w1 ⟨rfl, hb1⟩
    have C1 := C0.below hb1 S0
    have S1 : b < w1.heap.size := Nat.lt_of_lt_of_le S0 hb1.size
    have B1 := B0.trans (hb1.mono (Nat.le_of_lt S0))
    have hr1 := hr0.below hb1
    clear hb1 B0 S0 C0 hr0
    obtain ⟨_, c1, c2, _⟩ := C1
    rw [Nat.zero_add] at c1 c2
    by_cases hq : amongI (fun x => decide (x.round < k.round)) L k.frm L.length = k.frm
    · have HT2 : Hid (bearsB L k = decide (3 ≤ handsN L (roundS L k.frm (k.round - 1)))) := by show _ = _; rw [HT.out]; simp [hq]
      rw [hq]
      clear hq HT
      have hrb := round_bd L k.frm (k.round - 1) hL
      go_wp2_with fail
      refine (atRound g off cap L k.frm (k.round - 1) _ hL HOK.out hr1).mono ?_
      rintro e w2 ⟨rfl, hb2⟩
      have hr2 := hr1.below hb2
      have B2 := B1.trans (hb2.mono (Nat.le_of_lt S1))
      have S2 : b < w2.heap.size := Nat.lt_of_lt_of_le S1 hb2.size
      clear hb2 B1 S1 hr1 c1 c2
      go_wp2_with fail
      refine (hands g off cap L _ _ hL hrb.1 hrb.2.1 hrb.2.2 hh hr2).mono ?_
      rintro e w3 ⟨rfl, hb3⟩
      have B3 := B2.trans (hb3.mono (Nat.le_of_lt S2))
      clear hb3 B2 S2 hr2
      go_wp2
      go_ret
      exact ⟨by rw [HT2.out]; rfl, by first | exact B3 | (rw [hb]; exact B3)⟩
    · have HT2 : Hid (bearsB L k = false) := by show _ = _; rw [HT.out]; simp [hq]
      have hq' : (amongI (fun x => decide (x.round < k.round)) L k.frm L.length == k.frm) = false := by simpa using hq
      clear hq HT
      go_wp2
      go_ret
      exact ⟨by rw [HT2.out]; rfl, by first | exact B1 | (rw [hb]; exact B1)⟩

/-- may it be tied behind these? -/
def takesB (L : List K) (k : K) : Bool := decide (L.length < 60) && canB L k

set_option maxHeartbeats 1600000 in
theorem takes (g off cap : Nat) (L : List K) (k : K) (w : World) (hL : L.length ≤ 60) (hw : k.word.size ≤ 1099511627776) (hh : HandsOk L) (hr : RdK w (some ⟨g, off, none⟩) L) :
    Calls Tryd.prog 81 #[.slice (some ⟨g, off, none⟩) L.length cap, .agg #[.int .i64 k.hand, .int .i64 k.round, .int .i64 k.frm, .string k.word]] w fun e w' => e = .returned (.bool (takesB L k)) ∧ Below w.heap.size w w' := by
  have HT : Hid (takesB L k = (decide (L.length < 60) && (okK k && bearsB L k))) := by show _ = _; rw [takes_can L k hL]; rfl
  have P0 : Hid (Below w.heap.size w (w.alloc (.cells #[.int .i64 k.hand, .int .i64 k.round, .int .i64 k.frm, .string k.word] 69)) ∧ CellsK (w.alloc (.cells #[.int .i64 k.hand, .int .i64 k.round, .int .i64 k.frm, .string k.word] 69)) w.heap.size 0 k ∧ w.heap.size < (w.alloc (.cells #[.int .i64 k.hand, .int .i64 k.round, .int .i64 k.frm, .string k.word] 69)).heap.size) :=
    ⟨(Below.refl _ _).alloc (Nat.le_refl _) _, ⟨by simp, by simp, by simp, by simp⟩, by simp⟩
  by_cases h60 : L.length < 60
  · have h60' : (L.length : Int) < 60 := by omega
    go_enter Tryd.func81, Tryd.ntmps81
    go_wp2_with fail
    generalize w.alloc (.cells #[.int .i64 k.hand, .int .i64 k.round, .int .i64 k.frm, .string k.word] 69) = w0 at P0 ⊢
    obtain ⟨B0, C0, S0⟩ := P0
    generalize hb : w.heap.size = b at *
    have hr0 : RdK w0 (some ⟨g, off, none⟩) L := hr.below (by rw [hb]; exact B0)
    refine (Kn.knotRight k.hand k.round k.frm k.word _ hw).mono ?_
    rintro e w1 ⟨rfl, hb1⟩
    have C1 := C0.below hb1 S0
    have S1 : b < w1.heap.size := Nat.lt_of_lt_of_le S0 hb1.size
    have B1 := B0.trans (hb1.mono (Nat.le_of_lt S0))
    have hr1 := hr0.below hb1
    clear hb1 B0 S0 C0 hr0
    obtain ⟨c0, c1, c2, c3⟩ := C1
    rw [Nat.zero_add] at c1 c2 c3
    cases hok : okK k
    · have HT2 : Hid (takesB L k = false) := by show _ = _; rw [HT.out, hok]; simp
      clear hok HT
      go_wp2
      go_ret
      exact ⟨by rw [HT2.out]; rfl, by first | exact B1 | (rw [hb]; exact B1)⟩
    · have HT2 : Hid (takesB L k = bearsB L k) := by show _ = _; rw [HT.out, hok]; simp [h60]
      have HOK : Hid (okK k = true) := hok
      clear hok HT
      go_wp2_with fail
      refine (bears g off cap L k _ hL HOK.out hh hr1).mono ?_
      rintro e w2 ⟨rfl, hb2⟩
      have B2 := B1.trans (hb2.mono (Nat.le_of_lt S1))
      clear hb2 B1 S1
      go_wp2
      go_ret
      exact ⟨by rw [HT2.out]; rfl, by first | exact B2 | (rw [hb]; exact B2)⟩
  · have HT2 : Hid (takesB L k = false) := by show _ = _; rw [HT.out]; simp [h60]
    have h60' : ¬ (L.length : Int) < 60 := by omega
    go_enter Tryd.func81, Tryd.ntmps81
    go_wp2
    go_ret
    exact ⟨by rw [HT2.out]; rfl, P0.out.1⟩

end Lc
end Go.Proofs.YtapfmadnkaimeaaDoor
