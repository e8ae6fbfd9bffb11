/-
  What the model's FreshOf, Ordered, TaleOf and OutOf answer; for coins of at most a million numbers and lists of knots whose words have at most 2^40 bytes.
  What the model's FirmOnes answers: those of a closed set that are firm; for coins of at most a million numbers and lists of knots whose words have at most 2^40 bytes.
  What the model's Earlier, ChainOf and OnChain answer: from leader to leader; for coins of at most a million numbers and lists of knots whose words have at most 2^40 bytes.
  What the model's order answers: by rounds, then by hands, then by numbers; for laces.
-/
import Derived.Test.YtodgkhlnefggdaaGreatZTa
import Derived.Test.YtodgkhlnefggdaaGreatFam
import Derived.Maps.AppendAt
import Derived.Test.YtodgkhlnefggdaaGreatSightV
import Derived.Laws.AppendOwnNone
namespace Go.Proofs.YtodgkhlnefggdaaGreat
open Go.RowKit
set_option maxRecDepth 100000
namespace Fm
open Kn (K okK)
open Bit (bit withB)
open Lc (at' RdK WordsOk laceB setB handsN roundS)
open Sg (isB bel belows closedB NumsPost)
open Db (RowI)
open Sl (sealS sealN)
open Ch (leadK firmN sealAt)
open Rm (coinsB)
open Tl (firmL)

theorem row_below {base : Nat} {e : TypeId} {size : Nat} {w w' : World} {v : Value} {n : Nat} {xs : List Value} (h : w.ownsRow base e size v n xs) (hb : Below w.heap.size w w') : w'.ownsRow base e size v n xs := by
  have hlt := World.ownsRow.lt h
  obtain ⟨h1, h2⟩ := h
  refine ⟨h1, ?_⟩
  rcases h2 with h2 | ⟨g, cap, cur, rfl, hB, hg, rest⟩
  · exact .inl h2
  · exact .inr ⟨g, cap, cur, rfl, hB, (hb.block g (hlt g rfl).2).trans hg, rest⟩

/-- what the document's FirmOnes answers -/
def firmI (L : List K) (C : List Int) (s : Int) : List Int := if closedB L s && coinsB C then firmL L C s L.length else []

theorem firmL_len (L : List K) (C : List Int) (s : Int) (n : Nat) : (firmL L C s n).length ≤ n := by
  induction n with
  | zero => exact Nat.le_refl 0
  | succ n ih =>
    show (if firmN L C s n then firmL L C s n ++ [(n : Int)] else firmL L C s n).length ≤ n + 1
    split
    · simp; omega
    · omega
theorem firmL_step (L : List K) (C : List Int) (s : Int) (n : Nat) : firmL L C s (n + 1) = if firmN L C s n then firmL L C s n ++ [(n : Int)] else firmL L C s n := rfl

set_option maxHeartbeats 6400000 in
theorem l9Firm (g off cap : Nat) (L : List K) (ao : Option Addr) (cc : Nat) (C : List Int) (h : Nat) (O : Nat → Int) (s : Int) (w : World) (hl : laceB L = true) (hr : RdK w (some ⟨g, off, none⟩) L) (hg : g < w.heap.size) (hrd : Lst.Rd w ao C) (hao : ∀ c, ao = some ⟨c, 0, none⟩ → c < w.heap.size) (hrow : RowI w h L.length O) (hO : ∀ i, i < L.length → O i = sealS L i L.length) (h0 : 0 ≤ s) (h1 : s < 1152921504606846976) :
    Calls Tryz.prog 48 #[.slice (some ⟨g, off, none⟩) L.length cap, .slice ao C.length cc, .slice (some ⟨h, 0, none⟩) L.length L.length, .int .i64 s] w (NumsPost (firmL L C s L.length) w) := by
  obtain ⟨i0, hi, hz0, hz1, hz2⟩ := info_parts Memb.info2
  have hL := ((Lc.lace_iff L).1 hl).1
  have HLC : Hid (laceB L = true) := hl
  have HRD : Hid (∀ W : World, Below w.heap.size w W → Lst.Rd W ao C ∧ ∀ c, ao = some ⟨c, 0, none⟩ → c < W.heap.size) := fun W hW => ⟨Ch.rd_below hrd hao hW, fun c e => Nat.lt_of_lt_of_le (hao c e) hW.size⟩
  have HROW : Hid (∀ i, i < L.length → h < w.heap.size ∧ w.cell? ⟨h, i, none⟩ = some (.int .i64 (sealS L i L.length))) := fun i hi => ⟨hrow.lt, by rw [← hO i hi]; exact hrow.rd i hi⟩
  have HH : Hid (Lc.HandsOk L) := Lc.lace_hands hl
  have HR : Hid (RdK w (some ⟨g, off, none⟩) L) := hr
  clear hl hrd hao hrow hO hr
  go_enter Tryz.func48, Tryz.ntmps48
  go_wp2
  go_loopw [9, 10] (fun v i wr => ∃ k : Nat, k ≤ L.length ∧ i = .int .i64 k ∧ Hid (wr.ownsRow w.heap.size 2 1 v (firmL L C s k).length ((firmL L C s k).map (Value.int .i64))) ∧ Hid (Below w.heap.size w wr)) (fun _ i _ => L.length - (intOf i).toNat)
  case atStart => exact ⟨0, by omega, rfl, Memb.own_empty w, (Below.refl _ _).alloc (Nat.le_refl _) _⟩
  case round =>
    obtain ⟨k, hk, rfl, HOW, HB⟩ := hrel
    by_cases hlt : k < L.length
    · have hki : (k : Int) < (L.length : Int) := by omega
      have hcall : ∀ W : World, Calls Tryz.prog 39 #[.int .i64 s, .int .i64 (k : Int)] W fun e w' => e = .returned (.bool (bit s k)) ∧ W = w' := fun W => (Db.has_call s k (bit s k) h0 h1 (by omega) rfl W).mono fun _ _ q => ⟨q.1, q.2.symm⟩
      have HST : Hid (firmL L C s (k + 1) = if firmN L C s k then firmL L C s k ++ [(k : Int)] else firmL L C s k) := firmL_step L C s k
      have HFN : Hid (firmN L C s k = (bit s k && (leadK C (at' L k) && decide (3 ≤ handsN L (roundS L (sealAt L s k) ((at' L k).round + 2)))))) := rfl
      have hfl := firmL_len L C s k
      cases hb : bit s k
      · have HD : Hid (firmL L C s (k + 1) = firmL L C s k) := by show _ = _; rw [HST.out, HFN.out, hb]; rfl
        rw [hb] at hcall
        clear hb HST HFN
        go_wp2_with (go_at_call 39; refine (hcall _).mono ?_; rintro e w' ⟨rfl, rfl⟩)
        go_roundw
        case rel => exact ⟨k + 1, by omega, by go_num, by show World.ownsRow _ _ _ _ _ _ _; rw [HD.out]; exact HOW.out, HB⟩
        case measure => simp [intOf]; omega
      · rw [hb] at hcall
        obtain ⟨_, c0, c1, c2, c3⟩ := (HR.out.below HB.out).on k hlt
        have hrb := Lc.ok_round (Lc.can_ok (Lc.lace_upTo HLC.out k hlt))
        have hld := Ch.l8Leads ao cc C (at' L k) wr hrb.1 (by omega) (HRD.out wr HB.out).1 (HRD.out wr HB.out).2
        cases hlk : leadK C (at' L k)
        · have HD : Hid (firmL L C s (k + 1) = firmL L C s k) := by show _ = _; rw [HST.out, HFN.out, hlk]; simp
          rw [hlk] at hld
          clear hb HST HFN hlk
          generalize at' L k = kk at c0 c1 c2 c3 hld
          go_wp2_with (first | (go_at_call 39; refine (hcall _).mono ?_; rintro e w' ⟨rfl, rfl⟩) | fail)
          refine hld.mono ?_
          rintro e w1 ⟨rfl, hb1⟩
          have HO1 : Hid (w1.ownsRow w.heap.size 2 1 u9 (firmL L C s k).length ((firmL L C s k).map (Value.int .i64))) := row_below HOW.out hb1
          have HB1 : Hid (Below w.heap.size w w1) := HB.out.trans (hb1.mono HB.out.size)
          clear hld hb1 c0 c1 c2 c3 HOW HB
          go_wp2
          go_roundw
          case rel => exact ⟨k + 1, by omega, by go_num, by show World.ownsRow _ _ _ _ _ _ _; rw [HD.out]; exact HO1.out, HB1⟩
          case measure => simp [intOf]; omega
        · rw [hlk] at hld
          have HF2 : Hid (firmN L C s k = decide (3 ≤ handsN L (roundS L (sealAt L s k) ((at' L k).round + 2)))) := by show _ = _; rw [HFN.out, hb, hlk]; rfl
          have hsb := Sl.sealS_bd L k L.length hL
          have hab := Sl.and_bd s (sealS L k L.length) h0 h1 hsb.1 hsb.2
          have HSA : Hid (sealAt L s k = bits .and .i64 s (sealS L k L.length)) := rfl
          have hrbd := Lc.round_bd L (bits .and .i64 s (sealS L k L.length)) ((at' L k).round + 2) hL
          rw [HSA.out] at HF2
          clear hb HFN hlk HSA
          generalize hkk : at' L k = kk at c0 c1 c2 c3 hld HF2 hrb hrbd
          have c1' := c1
          go_wp2_with (first | (go_at_call 39; refine (hcall _).mono ?_; rintro e w' ⟨rfl, rfl⟩) | fail)
          refine hld.mono ?_
          rintro e w1 ⟨rfl, hb1⟩
          have HO1 : Hid (w1.ownsRow w.heap.size 2 1 u9 (firmL L C s k).length ((firmL L C s k).map (Value.int .i64))) := row_below HOW.out hb1
          have HB1 : Hid (Below w.heap.size w w1) := HB.out.trans (hb1.mono HB.out.size)
          have hgr : g < wr.heap.size := Nat.lt_of_lt_of_le hg HB.out.size
          have cr := (hb1.cell (p := ⟨g, off + k * 4 + 1, none⟩) hgr).trans c1
          have hgr1 : g < w1.heap.size := Nat.lt_of_lt_of_le hgr hb1.size
          have hhw := (HROW.out k hlt).1
          have cs := (HB1.out.cell (p := ⟨h, k, none⟩) hhw).trans (HROW.out k hlt).2
          have hh1 : h < w1.heap.size := Nat.lt_of_lt_of_le hhw HB1.out.size
          clear hld hb1 c0 c1 c2 c3 HOW HB hcall c1'
          go_wp2_with fail
          have HRN : Hid (∀ W : World, Below w1.heap.size w1 W → Calls Tryz.prog 72 #[.slice (some ⟨g, off, none⟩) L.length cap, .int .i64 (bits .and .i64 s (sealS L k L.length)), .int .i64 (kk.round + 2)] W fun e w' => e = .returned (.int .i64 (roundS L (bits .and .i64 s (sealS L k L.length)) (kk.round + 2))) ∧ W = w') := fun W hW => Lc.l3Round g off cap L _ _ W hL (HR.out.below (HB1.out.trans (hW.mono HB1.out.size))) hab.1 hab.2
          have HHN : Hid (∀ W : World, Below w1.heap.size w1 W → Calls Tryz.prog 71 #[.slice (some ⟨g, off, none⟩) L.length cap, .int .i64 (roundS L (bits .and .i64 s (sealS L k L.length)) (kk.round + 2))] W fun e w' => e = .returned (.int .i64 (handsN L (roundS L (bits .and .i64 s (sealS L k L.length)) (kk.round + 2)))) ∧ Below W.heap.size W w') := fun W hW => Lc.l3Hands _ cap L _ W hL (HR.out.below (HB1.out.trans (hW.mono HB1.out.size))) HH.out hrbd.1 (by omega)
          generalize roundS L (bits .and .i64 s (sealS L k L.length)) (kk.round + 2) = rs at HF2 HRN HHN hrbd
          generalize handsN L rs = hn at HF2 HHN
          generalize sealS L k L.length = z at cs hab HRN
          have hw2 : IntKind.i64.wrap (kk.round + 2) = kk.round + 2 := by rw [IntKind.wrap_i64]; omega
          generalize hrr : kk.round = rr at cr HRN hrb hw2
          obtain ⟨X, _, F, HF, HG⟩ := Fam.fam w1
          have hc1 : ∀ z, (F z).cell? ⟨g, off + k * 4 + 1, none⟩ = some (.int .i64 rr) := fun y => ((HF.out y).cell (p := ⟨g, off + k * 4 + 1, none⟩) hgr1).trans cr
          have hc2 : ∀ y, (F y).cell? ⟨h, k, none⟩ = some (.int .i64 z) := fun y => ((HF.out y).cell (p := ⟨h, k, none⟩) hh1).trans cs
          clear cr cs hrr hkk
          refine Fam.region (F := F) (by kernel_rfl) (by kernel_rfl) (HG.out _ (Below.refl _ w1).drew) ?_
          repeat (go_big_quiet_step (first
            | (go_at_call 72; exact (HRN.out _ (HF.out _)).mono fun _ _ h => ⟨h.1, _, h.2.symm⟩)
            | (go_at_call 71; exact (HHN.out _ (HF.out _)).mono fun _ _ h => ⟨h.1, HG.out _ ((HF.out _).trans (h.2.mono (HF.out _).size))⟩)))
          refine wpQuiet_nil ?_
          intro w2 hw2'
          obtain ⟨y, rfl⟩ := hw2'
          have HB2 : Hid (Below w.heap.size w (F y)) := HB1.out.trans ((HF.out y).mono HB1.out.size)
          have HO2 : Hid ((F y).ownsRow w.heap.size 2 1 u9 (firmL L C s k).length ((firmL L C s k).map (Value.int .i64))) := row_below HO1.out (HF.out y)
          clear HO1 HB1 hc1 hc2 HRN HHN
          generalize F y = V at HB2 HO2 ⊢
          by_cases h3 : 3 ≤ hn
          · have HD : Hid (firmL L C s (k + 1) = firmL L C s k ++ [(k : Int)]) := by show _ = _; rw [HST.out, HF2.out, decide_eq_true h3]; rfl
            have HOA : Hid (∀ o : Obj, (V.alloc o).ownsRow w.heap.size 2 1 u9 (firmL L C s k).length ((firmL L C s k).map (Value.int .i64))) := fun o => HO2.out.alloc o
            clear HF2 HST
            go_wp2_with (at_builtin; refine wpList_append_own _ rfl _ _ 23 rfl w.heap.size 2 i0 (.int .i64 0) 1 8 Tryz.underlying23 hi hz0 hz1 hz2 rfl (by decide) _ _ _ rfl (HOA.out _) ⟨V.heap.size, 0, none⟩ 1 1 [.int .i64 (k : Int)] rfl rfl (Sg.one_new V (k : Int) _) (Sg.one_one (k : Int)) ?c3 ?c4 ?c5 ?_)
            case c3 => unfold maxLen; omega
            case c4 => omega
            case c5 => have := HB2.out.size; simp; omega
            intro v' w3 hown' hgrow _
            have R := Memb.rel_put HD.out HB2.out.size HO2.out HB2.out hown' hgrow
            have HO3 : Hid _ := R.1
            have HB3 : Hid _ := R.2.1
            clear hown' hgrow R HO2 HB2 HOA
            go_wp2
            go_roundw
            case rel => exact ⟨k + 1, by omega, by go_num, HO3, HB3⟩
            case measure => simp [intOf]; omega
          · have HD : Hid (firmL L C s (k + 1) = firmL L C s k) := by show _ = _; rw [HST.out, HF2.out, decide_eq_false h3]; rfl
            clear HF2 HST
            go_wp2
            go_roundw
            case rel => exact ⟨k + 1, by omega, by go_num, by show World.ownsRow _ _ _ _ _ _ _; rw [HD.out]; exact HO2.out, HB2⟩
            case measure => simp [intOf]; omega
    · obtain rfl : k = L.length := by omega
      obtain ⟨bo, bc, hv, hown⟩ := Memb.own_shape HOW.out
      have HV : Hid (u9 = .slice bo (firmL L C s L.length).length bc) := hv
      clear hv
      go_wp2
      go_ret
      exact ⟨bo, bc, by rw [← HV.out]; rfl, hown, HB.out⟩

/-- a set that is closed, and coins -/
def rightB (L : List K) (C : List Int) (s : Int) : Bool := closedB L s && coinsB C

set_option maxHeartbeats 800000 in
theorem l9Right (g off cap : Nat) (L : List K) (ao : Option Addr) (cc : Nat) (C : List Int) (s : Int) (w : World) (hcap : L.length ≤ cap) (hw : WordsOk L) (hr : RdK w (some ⟨g, off, none⟩) L) (hC : C.length ≤ 1048576) (hrd : Lst.Rd w ao C) (hao : ∀ c, ao = some ⟨c, 0, none⟩ → c < w.heap.size) :
    Calls Tryz.prog 28 #[.slice (some ⟨g, off, none⟩) L.length cap, .slice ao C.length cc, .int .i64 s] w fun e w' => e = .returned (.bool (rightB L C s)) ∧ Below w.heap.size w w' := by
  go_enter Tryz.func28, Tryz.ntmps28
  go_wp2_with fail
  refine (Sg.specClosed g off cap L s _ hcap hw hr).mono ?_
  rintro e w1 ⟨rfl, hb1⟩
  have hcall := Rm.specCoinsOk ao cc C w1 hC (Ch.rd_below hrd hao hb1)
  have HT : Hid (rightB L C s = (closedB L s && coinsB C)) := rfl
  clear hrd hao hr
  generalize closedB L s = b1 at HT ⊢
  generalize coinsB C = b2 at HT hcall
  cases b1
  · clear hcall
    go_wp2
    go_ret
    exact ⟨by rw [HT.out]; rfl, hb1⟩
  · go_wp2_with (go_at_call 32; refine hcall.mono ?_; rintro e w' ⟨rfl, rfl⟩)
    go_ret
    exact ⟨by rw [HT.out]; rfl, hb1⟩

theorem closed_set {L : List K} {s : Int} (h : closedB L s = true) : laceB L = true ∧ 0 ≤ s ∧ s < 1152921504606846976 := by
  unfold Sg.closedB at h
  rw [Bool.and_eq_true] at h
  obtain ⟨hl, q0, q1, _⟩ := Lc.setB_parts h.1
  exact ⟨hl, q0, q1⟩

/-- the document's Firm -/
def firmB (L : List K) (C : List Int) (s k : Int) : Bool := (firmI L C s).contains k
theorem has_step (l : List Int) (k : Int) (j : Nat) (hj : j < l.length) : (l.take (j + 1)).contains k = ((l.take j).contains k || (l.getD j 0 == k)) := by
  rw [Lc.take_snocI l j hj]
  generalize l.getD j 0 = y
  generalize l.take j = t
  rw [Bool.eq_iff_iff]
  simp only [List.contains_iff_mem, List.mem_append, List.mem_singleton, Bool.or_eq_true, beq_iff_eq]
  exact or_congr Iff.rfl eq_comm

theorem firmI_len (L : List K) (C : List Int) (s : Int) : (firmI L C s).length ≤ L.length := by
  unfold firmI; split
  · exact firmL_len L C s _
  · simp

theorem last_mem (L : List K) (l : List Int) : Tl.lastT L l = -1 ∨ Tl.lastT L l ∈ l := by
  suffices H : ∀ n, n ≤ l.length → Tl.lastT L (l.take n) = -1 ∨ Tl.lastT L (l.take n) ∈ l.take n by
    have := H l.length (Nat.le_refl _)
    rwa [List.take_length] at this
  intro n
  induction n with
  | zero => intro _; exact .inl rfl
  | succ n ih =>
    intro hn
    rw [Lc.take_snocI l n (by omega), Tl.lastT_snoc]
    split
    · exact .inr (by simp)
    · rcases ih (by omega) with e | e
      · rename_i hc
        exact absurd (.inl (by rw [e]; omega)) hc
      · exact .inr (by simp only [List.mem_append]; exact .inl e)

set_option maxHeartbeats 1600000 in
theorem l9Last (g off cap : Nat) (L : List K) (lo : Option Addr) (lc : Nat) (l : List Int) (w : World) (hin : ∀ x ∈ l, 0 ≤ x ∧ x < (L.length : Int)) (hll : l.length ≤ 1048576) (hr : RdK w (some ⟨g, off, none⟩) L) (hrd : Lst.Rd w lo l) :
    Calls Tryz.prog 47 #[.slice (some ⟨g, off, none⟩) L.length cap, .slice lo l.length lc] w fun e w' => e = .returned (.int .i64 (Tl.lastT L l)) ∧ ∃ n, w' = w.drewN n := by
  have HIN : Hid (∀ x ∈ l, 0 ≤ x ∧ x < (L.length : Int)) := hin
  clear hin
  go_enter Tryz.func47, Tryz.ntmps47
  go_wp2
  go_loopw [5, 6] (fun o i wr => ∃ j : Nat, j ≤ l.length ∧ i = .int .i64 j ∧ o = .int .i64 (Tl.lastT L (l.take j)) ∧ ∃ n, wr = w.drewN n) (fun _ i _ => l.length - (intOf i).toNat)
  case atStart => exact ⟨0, by omega, rfl, rfl, 0, rfl⟩
  case round =>
    obtain ⟨j, hj, rfl, rfl, n, rfl⟩ := hrel
    by_cases hlt : j < l.length
    · have hji : (j : Int) < (l.length : Int) := by omega
      have HST : Hid (Tl.lastT L (l.take (j + 1)) = if Tl.lastT L (l.take j) < 0 ∨ (at' L (Tl.lastT L (l.take j)).toNat).round < (at' L (l.getD j 0).toNat).round then l.getD j 0 else Tl.lastT L (l.take j)) := by
        show _ = _; rw [Lc.take_snocI l j hlt, Tl.lastT_snoc]
      have hmem : l.getD j 0 ∈ l := by simp [List.getD, List.getElem?_eq_getElem hlt]
      have hx := HIN.out _ hmem
      have HO : Hid (Tl.lastT L (l.take j) = -1 ∨ ∃ e : Nat, Tl.lastT L (l.take j) = (e : Int) ∧ e < L.length) := by
        rcases last_mem L (l.take j) with e | e
        · exact .inl e
        · have hb := HIN.out _ (List.mem_of_mem_take e)
          exact .inr ⟨(Tl.lastT L (l.take j)).toNat, by omega, by omega⟩
      rcases hrd with hrd | ⟨lb, rfl, hcell⟩
      · rw [hrd] at hlt; simp at hlt
      have cj := hcell j hlt
      clear hcell hmem
      generalize l.getD j 0 = xx at cj hx HST
      obtain ⟨p, rfl⟩ := Int.eq_ofNat_of_zero_le hx.1
      have hp : p < L.length := by omega
      have hpi : (p : Int) < (L.length : Int) := by omega
      rw [Int.toNat_natCast] at HST
      obtain ⟨_, _, c1, _, _⟩ := hr.on p hp
      have HRO : Hid (∀ e : Nat, e < L.length → w.cell? ⟨g, off + e * 4 + 1, none⟩ = some (.int .i64 (at' L e).round)) := fun e he => by obtain ⟨_, _, q, _, _⟩ := hr.on e he; exact q
      generalize Tl.lastT L (l.take j) = oo at HST HO ⊢
      generalize (at' L p).round = rp at c1 HST
      rcases HO.out with e | ⟨e, rfl, hex⟩
      · subst e
        have HD : Hid (Tl.lastT L (l.take (j + 1)) = (p : Int)) := by show _ = _; rw [HST.out, if_pos (.inl (by omega))]
        clear HST HO HRO
        go_wp2_with fail
        go_quiet (fail)
        go_wp2
        go_roundw
        case rel => exact ⟨j + 1, by omega, by go_num, by rw [HD.out], n + nq, rfl⟩
        case measure => simp [intOf]; omega
      · have ce := HRO.out e hex
        have hei : (e : Int) < (L.length : Int) := by omega
        have he0 : decide ((e : Int) < 0) = false := decide_eq_false (by omega)
        rw [Int.toNat_natCast] at HST
        generalize (at' L e).round = er at ce HST
        clear HO HRO
        by_cases hrr : er < rp
        · have HD : Hid (Tl.lastT L (l.take (j + 1)) = (p : Int)) := by show _ = _; rw [HST.out, if_pos (.inr hrr)]
          clear HST
          go_wp2_with fail
          go_quiet (fail)
          go_wp2
          go_roundw
          case rel => exact ⟨j + 1, by omega, by go_num, by rw [HD.out], n + nq, rfl⟩
          case measure => simp [intOf]; omega
        · have HD : Hid (Tl.lastT L (l.take (j + 1)) = (e : Int)) := by show _ = _; rw [HST.out, if_neg (by omega)]
          clear HST
          go_wp2_with fail
          go_quiet (fail)
          go_wp2
          go_roundw
          case rel => exact ⟨j + 1, by omega, by go_num, by rw [HD.out], n + nq, rfl⟩
          case measure => simp [intOf]; omega
    · obtain rfl : j = l.length := by omega
      have e : l.take l.length = l := List.take_length
      rw [e]
      go_wp2
      go_ret
      exact ⟨rfl, n, rfl⟩

theorem firmI_in {L : List K} {C : List Int} {s : Int} : ∀ x ∈ firmI L C s, 0 ≤ x ∧ x < (L.length : Int) := by
  intro x hx
  unfold firmI at hx
  split at hx
  · obtain ⟨k, rfl, hk, _⟩ := (Tl.mem_firm L C s L.length x).1 hx
    omega
  · exact absurd hx (by simp)
/-- the document's LastFirm -/
def lastI (L : List K) (C : List Int) (s : Int) : Int := Tl.lastT L (firmI L C s)

end Fm
end Go.Proofs.YtodgkhlnefggdaaGreat

namespace Go.Proofs.YtodgkhlnefggdaaGreat
open Go.RowKit
set_option maxRecDepth 100000
namespace Ch
open Kn (K okK)
open Bit (bit withB)
open Lc (at' RdK WordsOk laceB)
open Sg (isB bel belows NumsPost)
open Db (RowI)
open Sl (sealS sealN)
open Rm (coinsB)

/-- the two tables of a lace: what is below, and who seals -/
structure TabsL (w : World) (L : List K) (bb h : Nat) : Prop where
  bel : ∀ i, i < L.length → w.cell? ⟨bb, i, none⟩ = some (.int .i64 (Sg.bel L i))
  sl : ∀ i, i < L.length → w.cell? ⟨h, i, none⟩ = some (.int .i64 (sealS L i L.length))
  lb : bb < w.heap.size
  lh : h < w.heap.size
theorem TabsL.below {w w' : World} {L : List K} {bb h : Nat} (t : TabsL w L bb h) (hb : Below w.heap.size w w') : TabsL w' L bb h :=
  ⟨fun i hi => (hb.cell (p := ⟨bb, i, none⟩) t.lb).trans (t.bel i hi), fun i hi => (hb.cell (p := ⟨h, i, none⟩) t.lh).trans (t.sl i hi), Nat.lt_of_lt_of_le t.lb hb.size, Nat.lt_of_lt_of_le t.lh hb.size⟩

theorem earI_step (L : List K) (C : List Int) (k n : Nat) : earI L C k (n + 1) = if earN L C k n && (decide (earI L C k n < 0) || decide ((at' L (earI L C k n).toNat).round < (at' L n).round)) then (n : Int) else earI L C k n := rfl
theorem earI_bd (L : List K) (C : List Int) (k n : Nat) : earI L C k n = -1 ∨ ∃ e : Nat, earI L C k n = (e : Int) ∧ e < n := by
  rcases ear_spec L C k n with ⟨h, _⟩ | ⟨e, h, he, _⟩
  · exact .inl h
  · exact .inr ⟨e, h, he⟩

set_option maxHeartbeats 12800000 in
theorem l10Earlier (g off cap : Nat) (L : List K) (ao : Option Addr) (cc : Nat) (C : List Int) (bb bc h hc : Nat) (k : Nat) (w : World) (hl : laceB L = true) (hg : g < w.heap.size) (hr : RdK w (some ⟨g, off, none⟩) L) (hrd : Lst.Rd w ao C) (hao : ∀ c, ao = some ⟨c, 0, none⟩ → c < w.heap.size) (ht : TabsL w L bb h) (hk : k < L.length) :
    Calls Tryz.prog 54 #[.slice (some ⟨g, off, none⟩) L.length cap, .slice ao C.length cc, .slice (some ⟨bb, 0, none⟩) L.length bc, .slice (some ⟨h, 0, none⟩) L.length hc, .int .i64 (k : Int)] w fun e w' => e = .returned (.int .i64 (earlierN L C k)) ∧ Below w.heap.size w w' := by
  have hL := ((Lc.lace_iff L).1 hl).1
  have HLC : Hid (laceB L = true) := hl
  have HRD : Hid (∀ W : World, Below w.heap.size w W → Lst.Rd W ao C ∧ ∀ c, ao = some ⟨c, 0, none⟩ → c < W.heap.size) := fun W hW => ⟨rd_below hrd hao hW, fun c e => Nat.lt_of_lt_of_le (hao c e) hW.size⟩
  have HR : Hid (RdK w (some ⟨g, off, none⟩) L) := hr
  have HT : Hid (TabsL w L bb h) := ht
  have hki : (k : Int) < (L.length : Int) := by omega
  clear hl hrd hao hr ht
  go_enter Tryz.func54, Tryz.ntmps54
  go_wp2
  go_loopw [11, 12] (fun o i wr => ∃ x : Nat, x ≤ k ∧ i = .int .i64 x ∧ o = .int .i64 (earI L C k x) ∧ Hid (Below w.heap.size w wr)) (fun _ i _ => k - (intOf i).toNat)
  case atStart => exact ⟨0, by omega, rfl, rfl, Below.refl _ _⟩
  case round =>
    obtain ⟨x, hx, rfl, rfl, HB⟩ := hrel
    by_cases hlt : x < k
    · have hxk : (x : Int) < (k : Int) := by omega
      have hxL : x < L.length := by omega
      have hxi : (x : Int) < (L.length : Int) := by omega
      have HST : Hid (earI L C k (x + 1) = if earN L C k x && (decide (earI L C k x < 0) || decide ((at' L (earI L C k x).toNat).round < (at' L x).round)) then (x : Int) else earI L C k x) := earI_step L C k x
      have HEN : Hid (earN L C k x = (bit (bel L k) x && (leadK C (at' L x) && sealN L k x))) := rfl
      have hbd := earI_bd L C k x
      have hgw : g < wr.heap.size := Nat.lt_of_lt_of_le hg HB.out.size
      obtain ⟨_, c0, c1, c2, c3⟩ := (HR.out.below HB.out).on x hxL
      have hrb := Lc.ok_round (Lc.can_ok (Lc.lace_upTo HLC.out x hxL))
      have HT1 := HT.out.below HB.out
      have t1 := HT1.bel k hk
      have t2 := HT1.sl x hxL
      have tl1 := HT1.lb
      have tl2 := HT1.lh
      have hbb := Sg.bel_bd L k (by omega)
      have hsb := Sl.sealS_bd L x L.length hL
      have HHA : Hid (∀ (W : World) (f : Int) (i : Nat) (v : Bool), ((f = bel L k ∧ i = x ∧ v = bit (bel L k) x) ∨ (f = sealS L x L.length ∧ i = k ∧ v = sealN L k x)) → Calls Tryz.prog 39 #[.int .i64 f, .int .i64 (i : Int)] W fun e w' => e = .returned (.bool v) ∧ W = w') := fun W f i v hq => by
        rcases hq with ⟨rfl, rfl, rfl⟩ | ⟨rfl, rfl, rfl⟩
        · exact (Db.has_call _ i _ hbb.1 hbb.2 (by omega) rfl W).mono fun _ _ q => ⟨q.1, q.2.symm⟩
        · exact (Db.has_call _ i _ hsb.1 hsb.2 (by omega) (by rw [Sl.bit_sealS L x _ hL, decide_eq_true hk]; rfl) W).mono fun _ _ q => ⟨q.1, q.2.symm⟩
      have HLD : Hid (∀ W : World, Below wr.heap.size wr W → Calls Tryz.prog 70 #[.slice ao C.length cc, .agg #[.int .i64 (at' L x).hand, .int .i64 (at' L x).round, .int .i64 (at' L x).frm, .string (at' L x).word]] W fun e w' => e = .returned (.bool (leadK C (at' L x))) ∧ Below W.heap.size W w') := fun W hW => by
        have hB := HB.out.trans (hW.mono HB.out.size)
        exact l8Leads ao cc C (at' L x) W hrb.1 (by omega) (HRD.out W hB).1 (HRD.out W hB).2
      clear HT1 hbb hsb
      generalize bel L k = yb at t1 HHA HEN
      generalize sealS L x L.length = ys at t2 HHA
      generalize bit yb x = b1 at HEN HHA
      generalize sealN L k x = b3 at HEN HHA
      have HRO : Hid (∀ e : Nat, e < x → wr.cell? ⟨g, off + e * 4 + 1, none⟩ = some (.int .i64 (at' L e).round)) := fun e he => by obtain ⟨_, _, q, _, _⟩ := (HR.out.below HB.out).on e (by omega); exact q
      generalize hkk : at' L x = kk at c0 c1 c2 c3 HLD HEN HST hrb
      generalize leadK C kk = b2 at HEN HLD
      have HCASE : Hid (earI L C k x = -1 ∨ ∃ e : Nat, earI L C k x = (e : Int) ∧ e < x) := hbd
      generalize earI L C k x = eo at HST HCASE ⊢
      clear hbd hkk
      obtain ⟨X, _, F, HF, HG⟩ := Fam.fam wr
      have d0 : ∀ z, (F z).cell? ⟨g, off + x * 4, none⟩ = some (.int .i64 kk.hand) := fun z => ((HF.out z).cell (p := ⟨g, off + x * 4, none⟩) hgw).trans c0
      have d1 : ∀ z, (F z).cell? ⟨g, off + x * 4 + 1, none⟩ = some (.int .i64 kk.round) := fun z => ((HF.out z).cell (p := ⟨g, off + x * 4 + 1, none⟩) hgw).trans c1
      have d2 : ∀ z, (F z).cell? ⟨g, off + x * 4 + 2, none⟩ = some (.int .i64 kk.frm) := fun z => ((HF.out z).cell (p := ⟨g, off + x * 4 + 2, none⟩) hgw).trans c2
      have d3 : ∀ z, (F z).cell? ⟨g, off + x * 4 + 3, none⟩ = some (.string kk.word) := fun z => ((HF.out z).cell (p := ⟨g, off + x * 4 + 3, none⟩) hgw).trans c3
      have s1 : ∀ z, (F z).cell? ⟨bb, k, none⟩ = some (.int .i64 yb) := fun z => ((HF.out z).cell (p := ⟨bb, k, none⟩) tl1).trans t1
      have s2 : ∀ z, (F z).cell? ⟨h, x, none⟩ = some (.int .i64 ys) := fun z => ((HF.out z).cell (p := ⟨h, x, none⟩) tl2).trans t2
      clear c0 c1 c2 c3 t1 t2
      cases b1
      · have HD : Hid (earI L C k (x + 1) = eo) := by show _ = _; rw [HST.out, HEN.out]; simp
        clear HST HEN HCASE HLD
        go_wp2_with fail
        refine Fam.region (F := F) (by kernel_rfl) (by kernel_rfl) (HG.out _ (Below.refl _ wr).drew) ?_
        repeat (go_big_quiet_step (first
          | (go_at_call 39; exact (HHA.out _ _ _ _ (by first | exact .inl ⟨rfl, rfl, rfl⟩ | exact .inr ⟨rfl, rfl, rfl⟩)).mono fun _ _ q => ⟨q.1, _, q.2.symm⟩)))
        refine wpQuiet_nil ?_
        intro w2 hw2
        obtain ⟨z, rfl⟩ := hw2
        have HB2 : Hid (Below w.heap.size w (F z)) := HB.out.trans ((HF.out z).mono HB.out.size)
        clear HB
        go_wp2
        go_roundw
        case rel => exact ⟨x + 1, by omega, by go_num, by rw [HD.out], HB2⟩
        case measure => simp [intOf]; omega
      · cases b2
        · have HD : Hid (earI L C k (x + 1) = eo) := by show _ = _; rw [HST.out, HEN.out]; simp
          clear HST HEN HCASE
          go_wp2_with fail
          refine Fam.region (F := F) (by kernel_rfl) (by kernel_rfl) (HG.out _ (Below.refl _ wr).drew) ?_
          repeat (go_big_quiet_step (first
            | (go_at_call 39; exact (HHA.out _ _ _ _ (by first | exact .inl ⟨rfl, rfl, rfl⟩ | exact .inr ⟨rfl, rfl, rfl⟩)).mono fun _ _ q => ⟨q.1, _, q.2.symm⟩)
            | (go_at_call 70; exact (HLD.out _ (HF.out _)).mono fun _ _ q => ⟨q.1, HG.out _ ((HF.out _).trans (q.2.mono (HF.out _).size))⟩)))
          refine wpQuiet_nil ?_
          intro w2 hw2
          obtain ⟨z, rfl⟩ := hw2
          have HB2 : Hid (Below w.heap.size w (F z)) := HB.out.trans ((HF.out z).mono HB.out.size)
          clear HB
          go_wp2
          go_roundw
          case rel => exact ⟨x + 1, by omega, by go_num, by rw [HD.out], HB2⟩
          case measure => simp [intOf]; omega
        · cases b3
          · have HD : Hid (earI L C k (x + 1) = eo) := by show _ = _; rw [HST.out, HEN.out]; simp
            clear HST HEN HCASE
            go_wp2_with fail
            refine Fam.region (F := F) (by kernel_rfl) (by kernel_rfl) (HG.out _ (Below.refl _ wr).drew) ?_
            repeat (go_big_quiet_step (first
              | (go_at_call 39; exact (HHA.out _ _ _ _ (by first | exact .inl ⟨rfl, rfl, rfl⟩ | exact .inr ⟨rfl, rfl, rfl⟩)).mono fun _ _ q => ⟨q.1, _, q.2.symm⟩)
              | (go_at_call 70; exact (HLD.out _ (HF.out _)).mono fun _ _ q => ⟨q.1, HG.out _ ((HF.out _).trans (q.2.mono (HF.out _).size))⟩)))
            refine wpQuiet_nil ?_
            intro w2 hw2
            obtain ⟨z, rfl⟩ := hw2
            have HB2 : Hid (Below w.heap.size w (F z)) := HB.out.trans ((HF.out z).mono HB.out.size)
            clear HB
            go_wp2
            go_roundw
            case rel => exact ⟨x + 1, by omega, by go_num, by rw [HD.out], HB2⟩
            case measure => simp [intOf]; omega
          · rcases HCASE.out with e | ⟨e, rfl, hex⟩
            · subst e
              have HD : Hid (earI L C k (x + 1) = (x : Int)) := by show _ = _; rw [HST.out, HEN.out]; simp
              clear HST HEN HCASE
              go_wp2_with fail
              refine Fam.region (F := F) (by kernel_rfl) (by kernel_rfl) (HG.out _ (Below.refl _ wr).drew) ?_
              repeat (go_big_quiet_step (first
                | (go_at_call 39; exact (HHA.out _ _ _ _ (by first | exact .inl ⟨rfl, rfl, rfl⟩ | exact .inr ⟨rfl, rfl, rfl⟩)).mono fun _ _ q => ⟨q.1, _, q.2.symm⟩)
                | (go_at_call 70; exact (HLD.out _ (HF.out _)).mono fun _ _ q => ⟨q.1, HG.out _ ((HF.out _).trans (q.2.mono (HF.out _).size))⟩)))
              refine wpQuiet_nil ?_
              intro w2 hw2
              obtain ⟨z, rfl⟩ := hw2
              have HB2 : Hid (Below w.heap.size w (F z)) := HB.out.trans ((HF.out z).mono HB.out.size)
              clear HB
              go_wp2
              go_roundw
              case rel => exact ⟨x + 1, by omega, by go_num, by rw [HD.out], HB2⟩
              case measure => simp [intOf]; omega
            · have ce := HRO.out e hex
              have d5 : ∀ z, (F z).cell? ⟨g, off + e * 4 + 1, none⟩ = some (.int .i64 (at' L e).round) := fun z => ((HF.out z).cell (p := ⟨g, off + e * 4 + 1, none⟩) hgw).trans ce
              have hei : (e : Int) < (L.length : Int) := by omega
              have he0 : decide ((e : Int) < 0) = false := decide_eq_false (by omega)
              rw [Int.toNat_natCast] at HST
              generalize (at' L e).round = er at HST d5
              clear ce
              by_cases hrr : er < kk.round
              · have HD : Hid (earI L C k (x + 1) = (x : Int)) := by show _ = _; rw [HST.out, HEN.out]; simp [hrr]
                clear HST HEN HCASE HRO
                go_wp2_with fail
                refine Fam.region (F := F) (by kernel_rfl) (by kernel_rfl) (HG.out _ (Below.refl _ wr).drew) ?_
                repeat (go_big_quiet_step (first
                  | (go_at_call 39; exact (HHA.out _ _ _ _ (by first | exact .inl ⟨rfl, rfl, rfl⟩ | exact .inr ⟨rfl, rfl, rfl⟩)).mono fun _ _ q => ⟨q.1, _, q.2.symm⟩)
                  | (go_at_call 70; exact (HLD.out _ (HF.out _)).mono fun _ _ q => ⟨q.1, HG.out _ ((HF.out _).trans (q.2.mono (HF.out _).size))⟩)))
                refine wpQuiet_nil ?_
                intro w2 hw2
                obtain ⟨z, rfl⟩ := hw2
                have HB2 : Hid (Below w.heap.size w (F z)) := HB.out.trans ((HF.out z).mono HB.out.size)
                clear HB
                go_wp2
                go_roundw
                case rel => exact ⟨x + 1, by omega, by go_num, by rw [HD.out], HB2⟩
                case measure => simp [intOf]; omega
              · have HD : Hid (earI L C k (x + 1) = (e : Int)) := by show _ = _; rw [HST.out, HEN.out]; simp; omega
                clear HST HEN HCASE HRO
                go_wp2_with fail
                refine Fam.region (F := F) (by kernel_rfl) (by kernel_rfl) (HG.out _ (Below.refl _ wr).drew) ?_
                repeat (go_big_quiet_step (first
                  | (go_at_call 39; exact (HHA.out _ _ _ _ (by first | exact .inl ⟨rfl, rfl, rfl⟩ | exact .inr ⟨rfl, rfl, rfl⟩)).mono fun _ _ q => ⟨q.1, _, q.2.symm⟩)
                  | (go_at_call 70; exact (HLD.out _ (HF.out _)).mono fun _ _ q => ⟨q.1, HG.out _ ((HF.out _).trans (q.2.mono (HF.out _).size))⟩)))
                refine wpQuiet_nil ?_
                intro w2 hw2
                obtain ⟨z, rfl⟩ := hw2
                have HB2 : Hid (Below w.heap.size w (F z)) := HB.out.trans ((HF.out z).mono HB.out.size)
                clear HB
                go_wp2
                go_roundw
                case rel => exact ⟨x + 1, by omega, by go_num, by rw [HD.out], HB2⟩
                case measure => simp [intOf]; omega
    · obtain rfl : x = k := by omega
      have HE : Hid (earI L C x x = earlierN L C x) := rfl
      rw [HE.out]
      go_wp2
      go_ret
      exact ⟨rfl, HB.out⟩

/-- the chain so far, in memory of the call's own -/
structure ChSt (w wr : World) (v : Value) (l : List Int) : Prop where
  shape : ∃ gg cp, v = .slice (some ⟨gg, 0, none⟩) l.length cp ∧ Memb.Own w.heap.size wr (some ⟨gg, 0, none⟩) cp l
  bel : Below w.heap.size w wr
theorem chSt_start (w : World) : ChSt w (w.alloc (.cells #[] 2)) (.slice (some ⟨w.heap.size, 0, none⟩) 0 0) [] := ⟨⟨_, _, rfl, Memb.own_empty w⟩, (Below.refl _ _).alloc (Nat.le_refl _) _⟩
theorem chSt_put {w wr w3 : World} {v' : Value} {l : List Int} {x : Int} {o : Obj} (hB : Below w.heap.size w wr) (ho : w3.ownsRow w.heap.size 2 1 v' (1 + l.length) ([.int .i64 x] ++ l.map (Value.int .i64))) (hg : (wr.alloc o).grownBy w3 (some wr.heap.size)) (hn : ¬ v' = .slice none 0 0) : ChSt w w3 v' (x :: l) := by
  refine ⟨?_, (hB.alloc hB.size o).grown hg (by simp; have := hB.size; omega) (fun j hj => by cases hj; exact hB.size)⟩
  have ho' : w3.ownsRow w.heap.size 2 1 v' (x :: l).length ((x :: l).map (Value.int .i64)) := by
    rw [show (x :: l).length = 1 + l.length by simp; omega]; exact ho
  obtain ⟨ao, cap, hv, hown⟩ := Memb.own_shape ho'
  rcases ao with _ | a
  · obtain ⟨_, ⟨hx, _⟩ | ⟨gg, cp, cur, hx, _⟩⟩ := ho'
    · exact absurd hx hn
    · rw [hv] at hx; injection hx with hx _; exact absurd hx (by simp)
  · obtain ⟨_, ⟨hx, _⟩ | ⟨gg, cp, cur, hx, _⟩⟩ := ho'
    · exact absurd hx hn
    · rw [hv] at hx
      injection hx with hx _ hc
      injection hx with hx
      subst hx hc
      exact ⟨gg, cap, hv, hown⟩

set_option maxHeartbeats 3200000 in
theorem l10Chain (g off cap : Nat) (L : List K) (ao : Option Addr) (cc : Nat) (C : List Int) (bb bc h hc : Nat) (k : Nat) (w : World) (hl : laceB L = true) (hg : g < w.heap.size) (hr : RdK w (some ⟨g, off, none⟩) L) (hrd : Lst.Rd w ao C) (hao : ∀ c, ao = some ⟨c, 0, none⟩ → c < w.heap.size) (ht : TabsL w L bb h) (hk : k < L.length) :
    Calls Tryz.prog 34 #[.slice (some ⟨g, off, none⟩) L.length cap, .slice ao C.length cc, .slice (some ⟨bb, 0, none⟩) L.length bc, .slice (some ⟨h, 0, none⟩) L.length hc, .int .i64 (k : Int)] w (NumsPost (chainL L C (k : Int)) w) := by
  obtain ⟨i0, hi, hz0, hz1, hz2⟩ := info_parts Memb.info2
  have hL := ((Lc.lace_iff L).1 hl).1
  have HEAR : Hid (∀ (W : World) (p : Nat), Below w.heap.size w W → p < L.length → Calls Tryz.prog 54 #[.slice (some ⟨g, off, none⟩) L.length cap, .slice ao C.length cc, .slice (some ⟨bb, 0, none⟩) L.length bc, .slice (some ⟨h, 0, none⟩) L.length hc, .int .i64 (p : Int)] W fun e w' => e = .returned (.int .i64 (earlierN L C p)) ∧ Below W.heap.size W w') := fun W p hW hp =>
    l10Earlier g off cap L ao cc C bb bc h hc p W hl (Nat.lt_of_lt_of_le hg hW.size) (hr.below hW) (rd_below hrd hao hW) (fun c e => Nat.lt_of_lt_of_le (hao c e) hW.size) (ht.below hW) hp
  have HLEN : Hid (∀ (kc : Int) (l : List Int), chainL L C (k : Int) = chainL L C kc ++ l → l.length ≤ k + 1) := fun kc l e => by
    have h1 := chain_len L C (k : Int)
    rw [e] at h1
    simp at h1
    omega
  clear hl hr hrd hao ht
  go_enter Tryz.func34, Tryz.ntmps34
  go_wp2
  go_loopw [4, 11] (fun kv v wr => ∃ (kc : Int) (l : List Int), kv = .int .i64 kc ∧ (-1 ≤ kc ∧ kc < (L.length : Int)) ∧ Hid (chainL L C (k : Int) = chainL L C kc ++ l) ∧ Hid (ChSt w wr v l)) (fun kv _ _ => (intOf kv + 1).toNat)
  case atStart => exact ⟨(k : Int), [], rfl, by omega, by show _ = _; rw [List.append_nil], chSt_start w⟩
  case round =>
    obtain ⟨kc, l, rfl, hkc, HCH, HS⟩ := hrel
    have hll := HLEN.out kc l HCH.out
    by_cases hn : 0 ≤ kc
    · obtain ⟨p, rfl⟩ := Int.eq_ofNat_of_zero_le hn
      have hp : p < L.length := by omega
      have hlt := earlier_lt L C p
      have hge : -1 ≤ earlierN L C p := by rcases earI_bd L C p p with e | ⟨e, he, _⟩ <;> unfold earlierN <;> omega
      have HCH2 : Hid (chainL L C (k : Int) = chainL L C (earlierN L C p) ++ ((p : Int) :: l)) := by
        show _ = _; rw [HCH.out, chain_step, List.append_assoc]; rfl
      obtain ⟨gg, cp, hv, hown⟩ := HS.out.shape
      subst hv
      have hrd1 := Lst.own_rd hown
      have hgg := (World.ownsRow.lt hown gg rfl).2
      have HLIT : Hid ((wr.alloc (.cells #[.int .i64 (p : Int)] 2)).ownsRow w.heap.size 2 1 (.slice (some ⟨wr.heap.size, 0, none⟩) 1 1) 1 [.int .i64 (p : Int)]) := World.ownsRow_lit wr #[.int .i64 (p : Int)] 1 HS.out.bel.size (by unfold maxLen; omega) rfl
      have HNEW : Hid (∀ (j : Nat) u, (l.map (Value.int .i64))[j]? = some u → (wr.alloc (.cells #[.int .i64 (p : Int)] 2)).cell? ((⟨gg, 0, none⟩ : Addr).add j) = some u) := fun j u hu => by
        rw [List.getElem?_map] at hu
        rcases hj : l[j]? with _ | y
        · rw [hj] at hu; simp at hu
        · rw [hj] at hu
          simp at hu
          subst hu
          have hjl : j < l.length := (List.getElem?_eq_some_iff.1 hj).1
          rcases hrd1 with e | ⟨g2, e, hcell⟩
          · rw [e] at hjl; simp at hjl
          · injection e with e; injection e with e; subst e
            have := hcell j hjl
            rw [show l.getD j 0 = y by simp [List.getD, hj]] at this
            rw [show (⟨gg, 0, none⟩ : Addr).add j = ⟨gg, j, none⟩ by simp [Addr.add]; intro e; exact e.symm, World.cell?_alloc_lt _ _ _ hgg]
            exact this
      have HONE : Hid (∀ u ∈ l.map (Value.int .i64), u.oneCell' = true) := fun u hu => by
        obtain ⟨y, _, rfl⟩ := List.mem_map.1 hu; rfl
      have HBW : Hid (Below w.heap.size w wr) := HS.out.bel
      clear hown hrd1
      go_wp2_with (first | (at_builtin; refine wpList_append_own _ rfl _ _ 23 rfl w.heap.size 2 i0 (.int .i64 0) 1 8 Tryz.underlying23 hi hz0 hz1 hz2 rfl (by decide) (.slice (some ⟨wr.heap.size, 0, none⟩) 1 1) 1 [.int .i64 (p : Int)] (by first | rfl | simp [Act.eval]) HLIT.out ⟨gg, 0, none⟩ l.length cp (l.map (Value.int .i64)) (by first | rfl | simp [Act.eval]) (by simp) HNEW.out HONE.out ?c3 ?c4 ?c5 ?_) | fail)
      case c3 => unfold maxLen; omega
      case c4 => omega
      case c5 => have := HBW.out.size; simp; omega
      intro v' w3 hown' hgrow hnil
      have HS3 : Hid (ChSt w w3 v' ((p : Int) :: l)) := chSt_put HBW.out hown' hgrow hnil
      clear hown' hgrow hnil HS HLIT HNEW HONE HBW
      have hcall := HEAR.out w3 p HS3.out.bel hp
      go_wp2_with fail
      refine hcall.mono ?_
      rintro e w4 ⟨rfl, hb4⟩
      have HS4 : Hid (ChSt w w4 v' ((p : Int) :: l)) := by
        obtain ⟨g4, c4, e4, o4⟩ := HS3.out.shape
        exact ⟨⟨g4, c4, e4, Lst.own_below o4 hb4⟩, HS3.out.bel.trans (hb4.mono HS3.out.bel.size)⟩
      clear hb4 HS3 hcall
      go_wp2
      go_roundw
      case rel => exact ⟨earlierN L C p, (p : Int) :: l, rfl, by omega, HCH2, HS4⟩
      case measure => simp [intOf]; omega
    · have HE : Hid (chainL L C (k : Int) = l) := by show _ = _; rw [HCH.out, chain_neg L C (by omega)]; rfl
      obtain ⟨gg, cp, hv, hown⟩ := HS.out.shape
      have HV : Hid (u11 = .slice (some ⟨gg, 0, none⟩) l.length cp) := hv
      have HF : Hid (Memb.Own w.heap.size wr (some ⟨gg, 0, none⟩) cp l ∧ Below w.heap.size w wr) := ⟨hown, HS.out.bel⟩
      clear hv hown HS HCH
      go_wp2
      go_ret
      exact ⟨some ⟨gg, 0, none⟩, cp, by rw [HE.out, ← HV.out]; rfl, by rw [HE.out]; exact HF.out.1, HF.out.2⟩

/-- the model's two tables of a lace that has a knot -/
theorem tables (g off cap : Nat) (L : List K) (w : World) (hl : laceB L = true) (hN : 0 < L.length) (hr : RdK w (some ⟨g, off, none⟩) L) :
    Calls Tryz.prog 20 #[.slice (some ⟨g, off, none⟩) L.length cap] w fun e w' => ∃ bb bc, e = .returned (.slice (some ⟨bb, 0, none⟩) L.length bc) ∧ Below w.heap.size w w' ∧
      Calls Tryz.prog 35 #[.slice (some ⟨g, off, none⟩) L.length cap, .slice (some ⟨bb, 0, none⟩) L.length bc] w' fun e2 w2 => ∃ h, e2 = .returned (.slice (some ⟨h, 0, none⟩) L.length L.length) ∧ TabsL w2 L bb h ∧ Below w'.heap.size w' w2 := by
  have h60 := ((Lc.lace_iff L).1 hl).1
  refine (Sg.l4All (some ⟨g, off, none⟩) cap L w h60 (Sg.frm_lace hl) hr).mono ?_
  rintro e w1 ⟨bo, bc, rfl, hown, hb1⟩
  have hbl := Sg.belows_len L L.length
  have hrd := Lst.own_rd hown
  rcases hrd with e | ⟨bb, e, hcell⟩
  · rw [e] at hbl; simp at hbl; omega
  · subst e
    have hlt := (World.ownsRow.lt hown bb rfl).2
    refine ⟨bb, bc, by rw [hbl], hb1, ?_⟩
    refine (Sl.l7All g off cap L (some ⟨bb, 0, none⟩) bc w1 hl (hr.below hb1) (Lst.own_rd hown) (fun g' e => by injection e with e; injection e with e; subst e; exact hlt)).mono ?_
    rintro e w2 ⟨h, O, rfl, _, hrow, hO, hb2⟩
    refine ⟨h, rfl, ⟨fun i hi => ?_, fun i hi => by rw [← hO i hi]; exact hrow.rd i hi, Nat.lt_of_lt_of_le hlt hb2.size, hrow.lt⟩, hb2⟩
    rw [(hb2.cell (p := ⟨bb, i, none⟩) hlt)]
    have := hcell i (by rw [hbl]; exact hi)
    rwa [Sg.belows_get L L.length i hi] at this

/-- a knot, and coins -/
def onB (L : List K) (C : List Int) (k : Int) : Bool := isB L k && coinsB C
/-- the document's Earlier -/
def earlierI (L : List K) (C : List Int) (k : Int) : Int := if onB L C k then earlierN L C k.toNat else -1
/-- the document's ChainOf -/
def chainI (L : List K) (C : List Int) (k : Int) : List Int := if onB L C k then chainL L C k else []

set_option maxHeartbeats 800000 in
theorem l10Right (g off cap : Nat) (L : List K) (ao : Option Addr) (cc : Nat) (C : List Int) (k : Int) (w : World) (hcap : L.length ≤ cap) (hw : WordsOk L) (hr : RdK w (some ⟨g, off, none⟩) L) (hC : C.length ≤ 1048576) (hrd : Lst.Rd w ao C) (hao : ∀ c, ao = some ⟨c, 0, none⟩ → c < w.heap.size) :
    Calls Tryz.prog 18 #[.slice (some ⟨g, off, none⟩) L.length cap, .slice ao C.length cc, .int .i64 k] w fun e w' => e = .returned (.bool (onB L C k)) ∧ Below w.heap.size w w' := by
  go_enter Tryz.func18, Tryz.ntmps18
  go_wp2_with fail
  refine (Sg.l4Is g off cap L k _ hcap hw hr).mono ?_
  rintro e w1 ⟨rfl, hb1⟩
  have hcall := Rm.specCoinsOk ao cc C w1 hC (rd_below hrd hao hb1)
  have HT : Hid (onB L C k = (isB L k && coinsB C)) := rfl
  clear hrd hao hr
  generalize isB L k = b1 at HT ⊢
  generalize coinsB C = b2 at HT hcall
  cases b1
  · clear hcall
    go_wp2
    go_ret
    exact ⟨by rw [HT.out]; rfl, hb1⟩
  · go_wp2_with (go_at_call 32; refine hcall.mono ?_; rintro e w' ⟨rfl, rfl⟩)
    go_ret
    exact ⟨by rw [HT.out]; rfl, hb1⟩

theorem own_base {B B' : Nat} {w : World} {ao : Option Addr} {cap : Nat} {l : List Int} (h : Memb.Own B w ao cap l) (hb : B' ≤ B) : Memb.Own B' w ao cap l := by
  obtain ⟨a1, a2⟩ := h
  refine ⟨a1, ?_⟩
  rcases a2 with a2 | ⟨g2, c2, cur, e1, e2, rest⟩
  · exact .inl a2
  · exact .inr ⟨g2, c2, cur, e1, Nat.le_trans hb e2, rest⟩
/-- an empty list of the call's own -/
theorem nums_nil {w w1 : World} (hb1 : Below w.heap.size w w1) : Memb.Own w.heap.size (w1.alloc (.cells #[] 2)) (some ⟨w1.heap.size, 0, none⟩) 0 [] ∧ Below w.heap.size w (w1.alloc (.cells #[] 2)) := ⟨own_base (Memb.own_empty w1) hb1.size, hb1.alloc hb1.size _⟩

/-- the document's OnChain -/
def onChainB (L : List K) (C : List Int) (k x : Int) : Bool := (chainI L C k).contains x
theorem chainI_len {L : List K} {C : List Int} {k : Int} : (chainI L C k).length ≤ 61 := by
  unfold chainI
  split
  · rename_i h
    unfold onB at h
    rw [Bool.and_eq_true] at h
    obtain ⟨k0, k1, hlc⟩ := Sg.isB_parts h.1
    have h60 := ((Lc.lace_iff L).1 hlc).1
    have := chain_len L C k
    omega
  · simp

end Ch
end Go.Proofs.YtodgkhlnefggdaaGreat

namespace Go.Proofs.YtodgkhlnefggdaaGreat
open Go.RowKit
set_option maxRecDepth 100000
namespace Tl
open Kn (K okK)
open Bit (bit withB memTo)
open Lc (at' RdK WordsOk laceB setB)
open Sg (isB bel belows NumsPost)

/-- those that stand behind are passed over -/
theorem insR_pass (L : List K) (x : Int) : ∀ (a b : List Int), (∀ y ∈ a, gtB L y x = true) → insR L x (a ++ b) = a ++ insR L x b := by
  intro a
  induction a with
  | nil => intro b _; rfl
  | cons y a ih =>
    intro b h
    show insR L x (y :: (a ++ b)) = y :: (a ++ insR L x b)
    conv => lhs; unfold insR
    rw [h y (by simp), if_pos rfl, ih b (fun z hz => h z (by simp [hz]))]
theorem insB_at (L : List K) (out : List Int) (x : Int) (k : Nat) (hk : k ≤ out.length) (h1 : ∀ j, k ≤ j → j < out.length → gtB L (out.getD j 0) x = true) (h2 : k = 0 ∨ gtB L (out.getD (k - 1) 0) x = false) : insB L out x = out.take k ++ ([x] ++ out.drop k) := by
  unfold insB
  have e : out.reverse = (out.drop k).reverse ++ (out.take k).reverse := by rw [← List.reverse_append, List.take_append_drop]
  rw [e, insR_pass]
  · have : insR L x (out.take k).reverse = x :: (out.take k).reverse := by
      rcases h2 with h2 | h2
      · subst h2; simp [insR]
      · by_cases hk0 : k = 0
        · subst hk0; simp [insR]
        · have hk1 : k - 1 < out.length := by omega
          have e2 : out.take k = out.take (k - 1) ++ [out.getD (k - 1) 0] := by
            have := Lc.take_snocI out (k - 1) hk1
            rwa [show k - 1 + 1 = k by omega] at this
          rw [e2, List.reverse_append]
          show insR L x (out.getD (k - 1) 0 :: (out.take (k - 1)).reverse) = _
          unfold insR
          rw [h2, if_neg (by simp)]
          rfl
    rw [this, List.reverse_append, List.reverse_reverse, List.reverse_cons, List.reverse_reverse, List.append_assoc]
  · intro y hy
    rw [List.mem_reverse] at hy
    obtain ⟨j, hj, rfl⟩ := List.mem_iff_getElem.1 hy
    have hj' : k + j < out.length := by simp at hj; omega
    have := h1 (k + j) (by omega) hj'
    rw [List.getElem_drop]
    simpa [List.getD, List.getElem?_eq_getElem hj'] using this
theorem ord_step (L : List K) (m : List Int) (i : Nat) (hi : i < m.length) : ordL L (m.take (i + 1)) = insB L (ordL L (m.take i)) (m.getD i 0) := by
  rw [Lc.take_snocI m i hi]
  unfold ordL
  rw [List.foldl_append]; rfl
theorem ord_len (L : List K) (m : List Int) : (ordL L m).length = m.length := (ord_perm L m).length_eq

/-- a number is stored into a row of the call's own -/
theorem own_put {B : Nat} {w : World} {g n cap : Nat} {a : List Int} (h : w.ownsRow B 2 1 (.slice (some ⟨g, 0, none⟩) n cap) n (a.map (Value.int .i64))) (j : Nat) (y : Int) : (w.setCell ⟨g, j, none⟩ (.int .i64 y)).ownsRow B 2 1 (.slice (some ⟨g, 0, none⟩) n cap) n ((a.set j y).map (Value.int .i64)) := by
  obtain ⟨h1, h2⟩ := h
  refine ⟨by simpa using h1, ?_⟩
  rcases h2 with ⟨h2, _⟩ | ⟨g2, c2, cur, e1, hB, hg, hn, hm, hs, ht⟩
  · injection h2 with h2 _; exact absurd h2 (by simp)
  · injection e1 with e1 _ e3
    injection e1 with e1
    injection e1 with e1
    subst e1 e3
    refine .inr ⟨g, cap, cur.setIfInBounds j (.int .i64 y), rfl, hB, heap_setCell_same w g j cur _ _ hg, hn, hm, by simpa using hs, ?_⟩
    rw [Array.toList_setIfInBounds, List.take_set, ht, List.map_set]
theorem own_frozen {B : Nat} {w : World} {g n cap : Nat} {xs : List Value} {t : TypeId} (h : w.ownsRow B t 1 (.slice (some ⟨g, 0, none⟩) n cap) n xs) (j : Nat) : w.frozen? ⟨g, j, none⟩ = false := by
  obtain ⟨_, ⟨h2, _⟩ | ⟨g2, c2, cur, e1, hB, hg, _⟩⟩ := h
  · injection h2 with h2 _; exact absurd h2 (by simp)
  · injection e1 with e1 _ _
    injection e1 with e1
    injection e1 with e1
    subst e1
    simp [World.frozen?, hg]

theorem shift_set (out : List Int) (k : Nat) (y : Int) (hk : k + 1 ≤ out.length) : (out.take (k + 1) ++ ([y] ++ out.drop (k + 1))).set (k + 1) (out.getD k 0) = out.take k ++ ([out.getD k 0] ++ out.drop k) := by
  have e1 : out.take (k + 1) = out.take k ++ [out.getD k 0] := Lc.take_snocI out k (by omega)
  have e2 : out.drop k = out.getD k 0 :: out.drop (k + 1) := by
    rw [List.drop_eq_getElem_cons (by omega : k < out.length)]
    simp [List.getD, List.getElem?_eq_getElem (by omega : k < out.length)]
  rw [e2, e1]
  have hl : (out.take k ++ [out.getD k 0]).length = k + 1 := by simp; omega
  rw [List.set_append_right _ _ (by rw [hl]; omega), hl]
  simp
theorem last_set (out : List Int) (k : Nat) (x y : Int) (hk : k ≤ out.length) : (out.take k ++ ([y] ++ out.drop k)).set k x = out.take k ++ ([x] ++ out.drop k) := by
  have hl : (out.take k).length = k := by simp; omega
  rw [List.set_append_right _ _ (by rw [hl]; omega), hl]
  simp

theorem shift_get (out : List Int) (k j : Nat) (rest : List Int) (hj : j < k) (hk : k ≤ out.length) : (out.take k ++ rest).getD j 0 = out.getD j 0 := by
  have h1 : j < (out.take k).length := by simp <;> omega
  simp [List.getD, List.getElem?_append_left h1, hj]

/-- the order so far, and the members that are put into it -/
structure OrSt (w wr : World) (mb : Nat) (m : List Int) (og cp : Nat) (o : List Int) : Prop where
  own : wr.ownsRow w.heap.size 2 1 (.slice (some ⟨og, 0, none⟩) o.length cp) o.length (o.map (Value.int .i64))
  bel : Below w.heap.size w wr
  mc : ∀ j, j < m.length → wr.cell? ⟨mb, j, none⟩ = some (.int .i64 (m.getD j 0))
  ne : 0 < m.length → og ≠ mb
  ml : 0 < m.length → mb < wr.heap.size
theorem OrSt.cell {w wr : World} {mb : Nat} {m : List Int} {og cp : Nat} {o : List Int} (s : OrSt w wr mb m og cp o) {j : Nat} (hj : j < o.length) : wr.cell? ⟨og, j, none⟩ = some (.int .i64 (o.getD j 0)) := by
  have : Memb.Own w.heap.size wr (some ⟨og, 0, none⟩) cp o := s.own
  rcases Lst.own_rd this with e | ⟨g, e, hc⟩
  · rw [e] at hj; simp at hj
  · injection e with e; injection e with e; subst e; exact hc j hj
theorem OrSt.lt {w wr : World} {mb : Nat} {m : List Int} {og cp : Nat} {o : List Int} (s : OrSt w wr mb m og cp o) : w.heap.size ≤ og ∧ og < wr.heap.size := World.ownsRow.lt s.own og rfl
theorem OrSt.put {w wr : World} {mb : Nat} {m : List Int} {og cp : Nat} {o : List Int} (s : OrSt w wr mb m og cp o) (j : Nat) (y : Int) : OrSt w (wr.setCell ⟨og, j, none⟩ (.int .i64 y)) mb m og cp (o.set j y) where
  own := by have := own_put s.own j y; simpa using this
  bel := s.bel.setCell (p := ⟨og, j, none⟩) s.lt.1 _
  mc := fun i hi => (World.cell?_of_block (w := wr) (Below.heap_setCell wr ⟨og, j, none⟩ _ mb (fun e => s.ne (by omega) e.symm))).trans (s.mc i hi)
  ne := s.ne
  ml := fun h => by simpa using s.ml h
theorem OrSt.drewN {w wr : World} {mb : Nat} {m : List Int} {og cp : Nat} {o : List Int} (s : OrSt w wr mb m og cp o) (n : Nat) : OrSt w (wr.drewN n) mb m og cp o := ⟨s.own, Db.below_drewN s.bel n, s.mc, s.ne, s.ml⟩
theorem OrSt.app {w wr w1 : World} {mb : Nat} {m : List Int} {og cp : Nat} {o : List Int} {x : Int} {v' : Value} {ob : Obj} (s : OrSt w wr mb m og cp o) (ho : w1.ownsRow w.heap.size 2 1 v' (o.length + 1) (o.map (Value.int .i64) ++ [.int .i64 x])) (hg : (wr.alloc ob).grownBy w1 (some og)) (hn : ¬ v' = .slice none 0 0) (ha : v'.ownBlock = some og ∨ v'.ownBlock = some (wr.alloc ob).heap.size) : ∃ g2 c2, v' = .slice (some ⟨g2, 0, none⟩) (o.length + 1) c2 ∧ OrSt w w1 mb m g2 c2 (o ++ [x]) := by
  have ho' := ho
  obtain ⟨_, ⟨hx, _⟩ | ⟨g2, c2, cur, hx, _⟩⟩ := ho'
  · exact absurd hx hn
  · subst hx
    have hb : Below w.heap.size w w1 := (s.bel.alloc s.bel.size ob).grown hg (by simp; have := s.bel.size; omega) (fun k hk => by cases hk; exact s.lt.1)
    refine ⟨g2, c2, rfl, by simpa using ho, hb, fun j hj => ?_, fun hm => ?_, fun hm => ?_⟩
    · have h1 : (wr.alloc ob).cell? ⟨mb, j, none⟩ = some (.int .i64 (m.getD j 0)) := by rw [World.cell?_alloc_lt _ _ _ (s.ml (by omega))]; exact s.mc j hj
      exact World.grownBy.cell hg h1 (by intro e; injection e with e; exact s.ne (by omega) e.symm)
    · have hml := s.ml hm
      have hne := s.ne hm
      simp [Value.ownBlock] at ha
      rcases ha with e | e
      · subst e; exact hne
      · omega
    · have h1 := hg.size
      have h2 := s.ml hm
      simp at h1; omega

set_option maxHeartbeats 6400000 in
theorem l11Order (g off cap : Nat) (L : List K) (s : Int) (w : World) (hl : laceB L = true) (hr : RdK w (some ⟨g, off, none⟩) L) (h0 : 0 ≤ s) (h1 : s < 1152921504606846976) (hin : ∀ i, bit s i = true → i < L.length) :
    Calls Tryz.prog 36 #[.slice (some ⟨g, off, none⟩) L.length cap, .int .i64 s] w (NumsPost (ordL L (memTo s 60)) w) := by
  obtain ⟨i0, hi, hz0, hz1, hz2⟩ := info_parts Memb.info2
  have hL := ((Lc.lace_iff L).1 hl).1
  have HMEM : Hid (∀ x ∈ memTo s 60, ∃ p : Nat, x = (p : Int) ∧ p < L.length) := fun x hx => by
    obtain ⟨j, _, rfl, hb⟩ := (Bit.mem_memTo _ _ _).1 hx
    exact ⟨j, rfl, hin j hb⟩
  have HKN : Hid (∀ (W : World) (p : Nat), Below w.heap.size w W → p < L.length → W.cell? ⟨g, off + p * 4, none⟩ = some (.int .i64 (at' L p).hand) ∧ W.cell? ⟨g, off + p * 4 + 1, none⟩ = some (.int .i64 (at' L p).round)) := fun W p hW hp => by
    obtain ⟨_, q0, q1, _, _⟩ := (hr.below hW).on p hp
    exact ⟨q0, q1⟩
  have hml : (memTo s 60).length ≤ 60 := Bit.memTo_le s 60
  clear hl hr hin
  have HB0 : Hid (Below w.heap.size w (w.alloc (.cells #[] 2))) := (Below.refl _ _).alloc (Nat.le_refl _) _
  have HE0 : Hid ((w.alloc (.cells #[] 2)).ownsRow w.heap.size 2 1 (.slice (some ⟨w.heap.size, 0, none⟩) 0 0) 0 []) := Memb.own_empty w
  have hsz0 : w.heap.size < (w.alloc (.cells #[] 2)).heap.size := by simp
  go_enter Tryz.func36, Tryz.ntmps36
  go_wp2_with fail
  generalize w.alloc (.cells #[] 2) = w0 at HB0 HE0 hsz0 ⊢
  refine (Memb.l1Members' s _ h0 h1).mono ?_
  rintro e w1 ⟨mo, mc, rfl, hown, hb1⟩
  obtain ⟨mb, HMO, HS1⟩ : ∃ mb, Hid (0 < (memTo s 60).length → mo = some ⟨mb, 0, none⟩) ∧ Hid (OrSt w w1 mb (memTo s 60) w.heap.size 0 []) := by
    have hE1 : w1.ownsRow w.heap.size 2 1 (.slice (some ⟨w.heap.size, 0, none⟩) 0 0) 0 [] := Fm.row_below HE0.out hb1
    have hB1 : Below w.heap.size w w1 := HB0.out.trans (hb1.mono HB0.out.size)
    rcases Lst.own_rd hown with e | ⟨mb, e, hc⟩
    · have hz : (memTo s 60).length = 0 := by rw [e]; rfl
      exact ⟨0, fun hh => by omega, ⟨hE1, hB1, fun j hj => by omega, fun hh => by omega, fun hh => by omega⟩⟩
    · subst e
      have := World.ownsRow.lt hown mb rfl
      exact ⟨mb, fun _ => rfl, ⟨hE1, hB1, hc, fun _ => by omega, fun _ => this.2⟩⟩
  clear hb1 hown HB0 HE0 hsz0
  generalize hmm : memTo s 60 = m at HMEM hml HMO HS1 ⊢
  have HMM : Hid (memTo s 60 = m) := hmm
  clear hmm
  go_wp2
  go_loopw [5, 7] (fun v iv wr => ∃ (i : Nat) (og ocp : Nat), i ≤ m.length ∧ iv = .int .i64 (i : Int) ∧ v = .slice (some ⟨og, 0, none⟩) (ordL L (m.take i)).length ocp ∧ Hid (OrSt w wr mb m og ocp (ordL L (m.take i)))) (fun _ iv _ => m.length - (intOf iv).toNat)
  case atStart => exact ⟨0, w.heap.size, 0, by omega, rfl, rfl, HS1⟩
  case round =>
    obtain ⟨i, og, ocp, hil, rfl, hv, HS⟩ := hrel
    clear HS1
    by_cases hlt : i < m.length
    · subst hv
      have hii : (i : Int) < (m.length : Int) := by omega
      have hmo := HMO.out (by omega)
      have HST : Hid (ordL L (m.take (i + 1)) = insB L (ordL L (m.take i)) (m.getD i 0)) := ord_step L m i hlt
      have hol : (ordL L (m.take i)).length = i := by rw [ord_len]; simp; omega
      have HIN : Hid (∀ j, j < i → ∃ r : Nat, (ordL L (m.take i)).getD j 0 = (r : Int) ∧ r < L.length) := fun j hj => by
        have hmem : (ordL L (m.take i)).getD j 0 ∈ ordL L (m.take i) := by simp [List.getD, List.getElem?_eq_getElem (show j < (ordL L (m.take i)).length by omega)]
        exact HMEM.out _ (List.mem_of_mem_take ((mem_ord L _ _).1 hmem))
      obtain ⟨p, hxp, hp⟩ := HMEM.out (m.getD i 0) (by simp [List.getD, List.getElem?_eq_getElem hlt])
      rw [hxp] at HST
      generalize ordL L (m.take i) = o at HST hol HIN HS ⊢
      have cm := HS.out.mc i hlt
      rw [hxp] at cm
      subst hmo
      have HOL : Hid (o.length = i) := hol
      have hol1 : o.length ≤ 60 := by omega
      have HXP : Hid (m.getD i 0 = (p : Int)) := hxp
      clear hol hxp
      have HOA : Hid (∀ ob : Obj, (wr.alloc ob).ownsRow w.heap.size 2 1 (.slice (some ⟨og, 0, none⟩) o.length ocp) o.length (o.map (Value.int .i64))) := fun ob => HS.out.own.alloc ob
      have hwsz := HS.out.bel.size
      go_wp2_with (first | (at_builtin; refine wpList_append_own_at _ rfl _ _ 23 rfl w.heap.size 2 i0 (.int .i64 0) 1 8 Tryz.underlying23 hi hz0 hz1 hz2 rfl (by decide) (.slice (some ⟨og, 0, none⟩) o.length ocp) o.length (o.map (Value.int .i64)) (by first | rfl | simp [Act.eval]) (HOA.out _) ⟨wr.heap.size, 0, none⟩ 1 1 [.int .i64 (p : Int)] (by first | rfl | simp [Act.eval]) rfl (Sg.one_new wr (p : Int) _) (Sg.one_one (p : Int)) ?c3 ?c4 ?c5 ?_) | fail)
      case c3 => unfold maxLen; omega
      case c4 => omega
      case c5 => first | omega | (simp; omega)
      intro v' w3 hown' hgrow hnil hat
      obtain ⟨g2, c2, rfl, hS3⟩ := HS.out.app hown' hgrow (by first | exact hnil | exact fun e => by have := hnil.1 e; simp at this) (by simpa [Value.ownBlock] using hat)
      have HS3 : Hid (OrSt w w3 mb m g2 c2 (o.take o.length ++ ([(p : Int)] ++ o.drop o.length))) := by
        show OrSt _ _ _ _ _ _ _
        rw [List.take_length, List.drop_length]; exact hS3
      clear hown' hgrow hnil hat HS HOA hS3 cm
      go_wp2_with fail
      go_loopw [8] (fun kv wk => ∃ (k : Nat) (y : Int), k ≤ o.length ∧ kv = .int .i64 (k : Int) ∧ Hid (OrSt w wk mb m g2 c2 (o.take k ++ ([y] ++ o.drop k))) ∧ Hid (∀ j, k ≤ j → j < o.length → gtB L (o.getD j 0) (p : Int) = true)) (fun kv _ => (intOf kv).toNat)
      case atStart => exact ⟨o.length, (p : Int), Nat.le_refl _, rfl, HS3, fun j h1 h2 => by omega⟩
      case round =>
        obtain ⟨k, y, hk, rfl, HSk, HG⟩ := hrel
        clear HS3
        have hpi : (p : Int) < (L.length : Int) := by omega
        by_cases hk0 : k = 0
        · subst hk0
          go_wp2_with fail
          go_quiet (fail)
          have HNEW : Hid (ordL L (m.take (i + 1)) = o.take 0 ++ ([(p : Int)] ++ o.drop 0)) := HST.out.trans (insB_at L o (p : Int) 0 (by omega) HG.out (.inl rfl))
          have HP : Hid (OrSt w ((wr.drewN nq).setCell ⟨g2, 0, none⟩ (.int .i64 (p : Int))) mb m g2 c2 (ordL L (m.take (i + 1)))) := by
            show OrSt _ _ _ _ _ _ _
            rw [HNEW.out, ← last_set o 0 (p : Int) y (by omega)]
            exact (HSk.out.drewN nq).put 0 (p : Int)
          have HLN : Hid ((ordL L (m.take (i + 1))).length = o.length + 1) := by show _ = _; rw [HNEW.out]; simp <;> omega
          have cm : (wr.drewN nq).cell? ⟨mb, i, none⟩ = some (.int .i64 (p : Int)) := by have := HSk.out.mc i hlt; rw [HXP.out] at this; exact this
          have fz : (wr.drewN nq).frozen? ⟨g2, 0, none⟩ = false := own_frozen HSk.out.own 0
          have hkl : 0 < (o.take 0 ++ ([y] ++ o.drop 0)).length := by simp <;> omega
          have ck : (wr.drewN nq).cell? ⟨g2, 0, none⟩ = some (.int .i64 ((o.take 0 ++ ([y] ++ o.drop 0)).getD 0 0)) := HSk.out.cell hkl
          generalize (o.take 0 ++ ([y] ++ o.drop 0)).getD 0 0 = yk at ck
          clear hkl HNEW
          generalize wr.drewN nq = V at HP cm fz ck ⊢
          go_wp2
          go_roundw
          case rel => exact ⟨i + 1, g2, c2, by omega, by go_num, by rw [HLN.out], HP⟩
          case measure => simp [intOf]; omega
        · obtain ⟨q, rfl⟩ : ∃ q, k = q + 1 := ⟨k - 1, by omega⟩
          have hq : q < o.length := by omega
          obtain ⟨r, hor, hrl⟩ := HIN.out q (by rw [← HOL.out]; exact hq)
          have co : wr.cell? ⟨g2, q, none⟩ = some (.int .i64 (r : Int)) := by
            have := HSk.out.cell (j := q) (by simp; omega)
            rwa [shift_get o (q + 1) q _ (by omega) hk, hor] at this
          have cm0 : wr.cell? ⟨mb, i, none⟩ = some (.int .i64 (p : Int)) := by have := HSk.out.mc i hlt; rw [HXP.out] at this; exact this
          obtain ⟨ph, pr⟩ := HKN.out wr p HSk.out.bel hp
          obtain ⟨rh, rr⟩ := HKN.out wr r HSk.out.bel hrl
          have HGT : Hid (gtB L (r : Int) (p : Int) = (decide ((at' L p).round < (at' L r).round) || (decide ((at' L r).round = (at' L p).round) && decide ((at' L p).hand < (at' L r).hand)))) := rfl
          have HOR : Hid (o.getD q 0 = (r : Int)) := hor
          have hri : (r : Int) < (L.length : Int) := by omega
          have hk1 : ((q + 1 : Nat) : Int) - 1 = (q : Int) := by omega
          have hq1 : (q : Int) < (o.length : Int) + 1 := by omega
          clear hor hk0
          generalize (at' L p).hand = hp0 at ph HGT
          generalize (at' L p).round = hp1 at pr HGT
          generalize (at' L r).hand = hr0 at rh HGT
          generalize (at' L r).round = hr1 at rr HGT
          by_cases g1 : hp1 < hr1
          · have HGQ : Hid (gtB L (r : Int) (p : Int) = true) := by show _ = _; rw [HGT.out, decide_eq_true g1]; rfl
            have g1b : decide (hp1 < hr1) = true := decide_eq_true g1
            clear HGT
            have HQP : Hid (∀ nq : Nat, OrSt w ((wr.drewN nq).setCell ⟨g2, q + 1, none⟩ (.int .i64 (r : Int))) mb m g2 c2 (o.take q ++ ([(r : Int)] ++ o.drop q))) := fun nq => by
              have := (HSk.out.drewN nq).put (q + 1) (r : Int)
              rwa [← HOR.out, shift_set o q y hk, HOR.out] at this
            have HGP : Hid (∀ j, q ≤ j → j < o.length → gtB L (o.getD j 0) (p : Int) = true) := fun j j1 j2 => by
              by_cases e : j = q
              · subst e; rw [HOR.out]; exact HGQ.out
              · exact HG.out j (by omega) j2
            have fz : wr.frozen? ⟨g2, q + 1, none⟩ = false := own_frozen HSk.out.own (q + 1)
            have hkl : q + 1 < (o.take (q + 1) ++ ([y] ++ o.drop (q + 1))).length := by simp <;> omega
            have ck : wr.cell? ⟨g2, q + 1, none⟩ = some (.int .i64 ((o.take (q + 1) ++ ([y] ++ o.drop (q + 1))).getD (q + 1) 0)) := HSk.out.cell hkl
            generalize (o.take (q + 1) ++ ([y] ++ o.drop (q + 1))).getD (q + 1) 0 = yk at ck
            clear hkl
            go_wp2_with fail
            go_quiet (fail)
            go_wp2
            go_roundw
            case rel => exact ⟨q, (r : Int), by omega, by go_num, HQP.out nq, HGP⟩
            case measure => simp [intOf]
          · have g1b : decide (hp1 < hr1) = false := decide_eq_false g1
            by_cases g2' : hr1 = hp1
            · have g2b : (hr1 == hp1) = true := by simpa using g2'
              by_cases g3 : hp0 < hr0
              · have HGQ : Hid (gtB L (r : Int) (p : Int) = true) := by show _ = _; rw [HGT.out, decide_eq_true g2', decide_eq_true g3]; simp
                have g3b : decide (hp0 < hr0) = true := decide_eq_true g3
                clear HGT g1 g2' g3
                have HQP : Hid (∀ nq : Nat, OrSt w ((wr.drewN nq).setCell ⟨g2, q + 1, none⟩ (.int .i64 (r : Int))) mb m g2 c2 (o.take q ++ ([(r : Int)] ++ o.drop q))) := fun nq => by
                  have := (HSk.out.drewN nq).put (q + 1) (r : Int)
                  rwa [← HOR.out, shift_set o q y hk, HOR.out] at this
                have HGP : Hid (∀ j, q ≤ j → j < o.length → gtB L (o.getD j 0) (p : Int) = true) := fun j j1 j2 => by
                  by_cases e : j = q
                  · subst e; rw [HOR.out]; exact HGQ.out
                  · exact HG.out j (by omega) j2
                have fz : wr.frozen? ⟨g2, q + 1, none⟩ = false := own_frozen HSk.out.own (q + 1)
                have hkl : q + 1 < (o.take (q + 1) ++ ([y] ++ o.drop (q + 1))).length := by simp <;> omega
                have ck : wr.cell? ⟨g2, q + 1, none⟩ = some (.int .i64 ((o.take (q + 1) ++ ([y] ++ o.drop (q + 1))).getD (q + 1) 0)) := HSk.out.cell hkl
                generalize (o.take (q + 1) ++ ([y] ++ o.drop (q + 1))).getD (q + 1) 0 = yk at ck
                clear hkl
                go_wp2_with fail
                go_quiet (fail)
                go_wp2
                go_roundw
                case rel => exact ⟨q, (r : Int), by omega, by go_num, HQP.out nq, HGP⟩
                case measure => simp [intOf]
              · have HGQ : Hid (gtB L (r : Int) (p : Int) = false) := by show _ = _; rw [HGT.out, decide_eq_false g1, decide_eq_false g3]; simp
                have g3b : decide (hp0 < hr0) = false := decide_eq_false g3
                clear HGT g1 g2' g3
                go_wp2_with fail
                go_quiet (fail)
                have HNEW : Hid (ordL L (m.take (i + 1)) = o.take (q + 1) ++ ([(p : Int)] ++ o.drop (q + 1))) := HST.out.trans (insB_at L o (p : Int) (q + 1) (by omega) HG.out (.inr (by show gtB L (o.getD q 0) (p : Int) = false; rw [HOR.out]; exact HGQ.out)))
                have HP : Hid (OrSt w ((wr.drewN nq).setCell ⟨g2, q + 1, none⟩ (.int .i64 (p : Int))) mb m g2 c2 (ordL L (m.take (i + 1)))) := by
                  show OrSt _ _ _ _ _ _ _
                  rw [HNEW.out, ← last_set o (q + 1) (p : Int) y (by omega)]
                  exact (HSk.out.drewN nq).put (q + 1) (p : Int)
                have HLN : Hid ((ordL L (m.take (i + 1))).length = o.length + 1) := by show _ = _; rw [HNEW.out]; simp <;> omega
                have cm : (wr.drewN nq).cell? ⟨mb, i, none⟩ = some (.int .i64 (p : Int)) := by have := HSk.out.mc i hlt; rw [HXP.out] at this; exact this
                have fz : (wr.drewN nq).frozen? ⟨g2, q + 1, none⟩ = false := own_frozen HSk.out.own (q + 1)
                have hkl : q + 1 < (o.take (q + 1) ++ ([y] ++ o.drop (q + 1))).length := by simp <;> omega
                have ck : (wr.drewN nq).cell? ⟨g2, q + 1, none⟩ = some (.int .i64 ((o.take (q + 1) ++ ([y] ++ o.drop (q + 1))).getD (q + 1) 0)) := HSk.out.cell hkl
                generalize (o.take (q + 1) ++ ([y] ++ o.drop (q + 1))).getD (q + 1) 0 = yk at ck
                clear hkl HNEW
                generalize wr.drewN nq = V at HP cm fz ck ⊢
                go_wp2
                go_roundw
                case rel => exact ⟨i + 1, g2, c2, by omega, by go_num, by rw [HLN.out], HP⟩
                case measure => simp [intOf]; omega
            · have g2b : (hr1 == hp1) = false := by simpa using g2'
              have HGQ : Hid (gtB L (r : Int) (p : Int) = false) := by show _ = _; rw [HGT.out, decide_eq_false g1, decide_eq_false g2']; simp
              clear HGT g1 g2'
              go_wp2_with fail
              go_quiet (fail)
              have HNEW : Hid (ordL L (m.take (i + 1)) = o.take (q + 1) ++ ([(p : Int)] ++ o.drop (q + 1))) := HST.out.trans (insB_at L o (p : Int) (q + 1) (by omega) HG.out (.inr (by show gtB L (o.getD q 0) (p : Int) = false; rw [HOR.out]; exact HGQ.out)))
              have HP : Hid (OrSt w ((wr.drewN nq).setCell ⟨g2, q + 1, none⟩ (.int .i64 (p : Int))) mb m g2 c2 (ordL L (m.take (i + 1)))) := by
                show OrSt _ _ _ _ _ _ _
                rw [HNEW.out, ← last_set o (q + 1) (p : Int) y (by omega)]
                exact (HSk.out.drewN nq).put (q + 1) (p : Int)
              have HLN : Hid ((ordL L (m.take (i + 1))).length = o.length + 1) := by show _ = _; rw [HNEW.out]; simp <;> omega
              have cm : (wr.drewN nq).cell? ⟨mb, i, none⟩ = some (.int .i64 (p : Int)) := by have := HSk.out.mc i hlt; rw [HXP.out] at this; exact this
              have fz : (wr.drewN nq).frozen? ⟨g2, q + 1, none⟩ = false := own_frozen HSk.out.own (q + 1)
              have hkl : q + 1 < (o.take (q + 1) ++ ([y] ++ o.drop (q + 1))).length := by simp <;> omega
              have ck : (wr.drewN nq).cell? ⟨g2, q + 1, none⟩ = some (.int .i64 ((o.take (q + 1) ++ ([y] ++ o.drop (q + 1))).getD (q + 1) 0)) := HSk.out.cell hkl
              generalize (o.take (q + 1) ++ ([y] ++ o.drop (q + 1))).getD (q + 1) 0 = yk at ck
              clear hkl HNEW
              generalize wr.drewN nq = V at HP cm fz ck ⊢
              go_wp2
              go_roundw
              case rel => exact ⟨i + 1, g2, c2, by omega, by go_num, by rw [HLN.out], HP⟩
              case measure => simp [intOf]; omega
    · obtain rfl : i = m.length := by omega
      have e : m.take m.length = m := List.take_length
      rw [e] at HS hv
      have HV : Hid (u5 = .slice (some ⟨og, 0, none⟩) (ordL L m).length ocp) := hv
      have HF : Hid (Memb.Own w.heap.size wr (some ⟨og, 0, none⟩) ocp (ordL L m) ∧ Below w.heap.size w wr) := ⟨HS.out.own, HS.out.bel⟩
      clear hv HS e
      go_wp2
      go_ret
      exact ⟨some ⟨og, 0, none⟩, ocp, by rw [HMM.out, ← HV.out]; rfl, by rw [HMM.out]; exact HF.out.1, HF.out.2⟩

end Tl
end Go.Proofs.YtodgkhlnefggdaaGreat

namespace Go.Proofs.YtodgkhlnefggdaaGreat
open Go.RowKit
set_option maxRecDepth 100000
namespace Tl
open Kn (K okK)
open Bit (bit withB memTo)
open Lc (at' RdK WordsOk laceB setB)
open Sg (isB bel belows NumsPost)
open Nd (nodN nodS)

/-- below k and not below the earlier one -/
def baseS (L : List K) (k : Nat) (e : Int) : Int := if 0 ≤ e then bits .andNot .i64 (bel L k) (bel L e.toNat) else bel L k
/-- the model's set, when all below b have been looked at -/
def frP (L : List K) (k : Nat) (e : Int) : Nat → Int
  | 0 => baseS L k e
  | b + 1 => if bit (frP L k e b) b && !nodN L k b then bits .andNot .i64 (frP L k e b) (2 ^ b) else frP L k e b

theorem base_bd {L : List K} {k : Nat} (hk : k < 60) {e : Int} : 0 ≤ baseS L k e ∧ baseS L k e < 1152921504606846976 := by
  have h1 := Sg.bel_bd L k hk
  unfold baseS
  split
  · exact Sg.andNot_bd' _ _ h1.1 h1.2
  · exact h1
theorem bit_base {L : List K} {k : Nat} (hk : k < 60) {e : Int} (he : e < 60) (j : Nat) : bit (baseS L k e) j = (bit (bel L k) j && !(decide (0 ≤ e) && bit (bel L e.toNat) j)) := by
  have h1 := Sg.bel_bd L k hk
  unfold baseS
  by_cases h0 : 0 ≤ e
  · have h2 := Sg.bel_bd L e.toNat (by omega)
    rw [if_pos h0, Sg.bit_andNot _ _ h1.1 h1.2 h2.1 h2.2, decide_eq_true h0, Bool.true_and]
  · rw [if_neg h0, decide_eq_false h0]; simp
theorem pow_bd {b : Nat} (hb : b < 60) : (0 : Int) ≤ 2 ^ b ∧ (2 : Int) ^ b < 1152921504606846976 := by
  have h1 := Bit.pow_pos' b
  have h2 : (2 : Nat) ^ b < 2 ^ 60 := Nat.pow_lt_pow_right (by decide) hb
  have h3 : ((2 ^ b : Nat) : Int) = (2 : Int) ^ b := by simp
  omega
theorem frP_bits {L : List K} {k : Nat} (hk : k < 60) {e : Int} (b : Nat) (hb : b ≤ 60) : (0 ≤ frP L k e b ∧ frP L k e b < 1152921504606846976) ∧ ∀ j, bit (frP L k e b) j = (bit (baseS L k e) j && (!decide (j < b) || nodN L k j)) := by
  induction b with
  | zero => exact ⟨base_bd hk, fun j => by simp [frP]⟩
  | succ b ih =>
    have ih := ih (by omega)
    have pb := pow_bd (b := b) (by omega)
    unfold frP
    cases hq : (bit (frP L k e b) b && !nodN L k b)
    · rw [if_neg (by simp)]
      refine ⟨ih.1, fun j => ?_⟩
      rw [ih.2 j]
      by_cases ej : j = b
      · subst ej
        rw [ih.2 j] at hq
        cases h1 : bit (baseS L k e) j
        · rfl
        · rw [h1] at hq
          cases h2 : nodN L k j
          · rw [h2] at hq; simp at hq
          · simp
      · have : decide (j < b + 1) = decide (j < b) := by simp; omega
        rw [this]
    · rw [if_pos rfl]
      refine ⟨Sg.andNot_bd' _ _ ih.1.1 ih.1.2, fun j => ?_⟩
      rw [Sg.bit_andNot _ _ ih.1.1 ih.1.2 pb.1 pb.2, Sg.bit_pow, ih.2 j]
      rw [Bool.and_eq_true, Bool.not_eq_true'] at hq
      by_cases ej : j = b
      · subst ej
        rw [hq.2]; simp
      · have : decide (j < b + 1) = decide (j < b) := by simp; omega
        rw [this, decide_eq_false ej]; simp
theorem frP_end {L : List K} (hl : laceB L = true) {k : Nat} (hk : k < L.length) {e : Int} (he : e < (L.length : Int)) : frP L k e L.length = frS L k e L.length := by
  have h60 := ((Lc.lace_iff L).1 hl).1
  have h1 := frP_bits (L := L) (show k < 60 by omega) (e := e) L.length h60
  refine Lc.eq_of_bits _ _ h1.1.1 (frS_bd L k e _ h60).1 fun j => ?_
  rw [h1.2 j, bit_frS L k e _ h60, bit_base (by omega) (by omega)]
  unfold fresN
  by_cases hj : j < L.length
  · rw [decide_eq_true hj]; simp [Bool.and_assoc]
  · have hb : bit (bel L k) j = false := by
      rw [Bool.eq_false_iff]; intro q
      have := Ag.sees_le hl hk q
      omega
    rw [hb]; simp

set_option maxHeartbeats 1600000 in
theorem l11Fresh (bb bc nb nc : Nat) (L : List K) (k : Nat) (e : Int) (w : World) (hl : laceB L = true) (hk : k < L.length) (he0 : -1 ≤ e) (he : e < (L.length : Int)) (hbel : ∀ i, i < L.length → w.cell? ⟨bb, i, none⟩ = some (.int .i64 (bel L i))) (hnod : ∀ i, i < L.length → w.cell? ⟨nb, i, none⟩ = some (.int .i64 (nodS L i L.length))) :
    Calls Tryz.prog 37 #[.slice (some ⟨bb, 0, none⟩) L.length bc, .slice (some ⟨nb, 0, none⟩) L.length nc, .int .i64 (k : Int), .int .i64 e] w fun en w' => en = .returned (.int .i64 (frS L k e L.length)) ∧ w = w' := by
  have h60 := ((Lc.lace_iff L).1 hl).1
  have hki : (k : Int) < (L.length : Int) := by omega
  have ck := hbel k hk
  have HE : Hid (frP L k e L.length = frS L k e L.length) := frP_end hl hk he
  have HNOD : Hid (∀ i, i < L.length → w.cell? ⟨nb, i, none⟩ = some (.int .i64 (nodS L i L.length))) := hnod
  have HFB : Hid (∀ b, b ≤ 60 → 0 ≤ frP L k e b ∧ frP L k e b < 1152921504606846976) := fun b hb => (frP_bits (by omega) b hb).1
  have HST : Hid (∀ b, frP L k e (b + 1) = if bit (frP L k e b) b && !nodN L k b then bits .andNot .i64 (frP L k e b) (2 ^ b) else frP L k e b) := fun b => rfl
  have HB0 : Hid (frP L k e 0 = baseS L k e) := rfl
  clear hnod hl
  by_cases h0 : 0 ≤ e
  · obtain ⟨q, rfl⟩ := Int.eq_ofNat_of_zero_le h0
    have ce := hbel q (by omega)
    have HBQ : Hid (baseS L k (q : Int) = bits .andNot .i64 (bel L k) (bel L q)) := by show _ = _; unfold baseS; rw [if_pos h0, Int.toNat_natCast]
    clear hbel
    generalize bel L k = yk at ck HBQ
    generalize bel L q = yq at ce HBQ
    go_enter Tryz.func37, Tryz.ntmps37
    go_wp2
    go_loop [9, 10] (fun sv iv => ∃ b : Nat, b ≤ L.length ∧ iv = .int .i64 (b : Int) ∧ sv = .int .i64 (frP L k (q : Int) b)) (fun _ iv => L.length - (intOf iv).toNat)
    case atStart => exact ⟨0, by omega, rfl, by rw [HB0.out]; rw [HBQ.out]⟩
    case round =>
      obtain ⟨b, hb, rfl, rfl⟩ := hrel
      by_cases hlt : b < L.length
      · have hbi : (b : Int) < (L.length : Int) := by omega
        have hfb := HFB.out b (by omega)
        have HS := HST.out b
        have cn := HNOD.out b hlt
        have hnb := Nd.nodS_bd L b L.length h60
        have hc1 : ∀ W : World, Calls Tryz.prog 39 #[.int .i64 (frP L k (q : Int) b), .int .i64 (b : Int)] W fun en w' => en = .returned (.bool (bit (frP L k (q : Int) b) b)) ∧ W = w' := fun W => (Db.has_call _ b _ hfb.1 hfb.2 (by omega) rfl W).mono fun _ _ q => ⟨q.1, q.2.symm⟩
        have hc2 : ∀ W : World, Calls Tryz.prog 39 #[.int .i64 (nodS L b L.length), .int .i64 (k : Int)] W fun en w' => en = .returned (.bool (nodN L k b)) ∧ W = w' := fun W => (Db.has_call _ k _ hnb.1 hnb.2 (by omega) (by rw [Nd.bit_nodS L b _ h60, decide_eq_true hk]; rfl) W).mono fun _ _ q => ⟨q.1, q.2.symm⟩
        have HSS : Hid (frP L k (q : Int) (b + 1) = if bit (frP L k (q : Int) b) b && !nodN L k b then bits .andNot .i64 (frP L k (q : Int) b) (2 ^ b) else frP L k (q : Int) b) := HS
        clear HS hnb
        generalize bit (frP L k (q : Int) b) b = b1 at hc1 HSS
        generalize nodN L k b = b2 at hc2 HSS
        generalize frP L k (q : Int) b = fp at hc1 HSS hfb ⊢
        generalize nodS L b L.length = nv at cn hc2
        cases b1
        · have HD : Hid (frP L k (q : Int) (b + 1) = fp) := by show _ = _; rw [HSS.out]; rfl
          clear HSS hc2
          go_wp2_with (go_at_call 39; refine (hc1 _).mono ?_; rintro e' w' ⟨rfl, rfl⟩)
          go_round
          case rel => exact ⟨b + 1, by omega, by go_num, by rw [HD.out]⟩
          case measure => simp [intOf]; omega
        · go_wp2_with fail
          refine (hc1 _).mono ?_
          rintro e' w' ⟨rfl, rfl⟩
          go_wp2_with fail
          refine (hc2 _).mono ?_
          rintro e' w' ⟨rfl, rfl⟩
          cases b2
          · have HD : Hid (frP L k (q : Int) (b + 1) = bits .andNot .i64 fp (2 ^ b)) := by show _ = _; rw [HSS.out]; rfl
            clear HSS hc1 hc2
            go_wp2_with (go_at_call 38; refine (Base.l1Bit _ _ (by omega) (by omega)).mono ?_; rintro e' w' ⟨rfl, rfl⟩; rw [Int.toNat_natCast])
            go_round
            case rel => exact ⟨b + 1, by omega, by go_num, by rw [HD.out]⟩
            case measure => simp [intOf]; omega
          · have HD : Hid (frP L k (q : Int) (b + 1) = fp) := by show _ = _; rw [HSS.out]; rfl
            clear HSS hc1 hc2
            go_wp2
            go_round
            case rel => exact ⟨b + 1, by omega, by go_num, by rw [HD.out]⟩
            case measure => simp [intOf]; omega
      · obtain rfl : b = L.length := by omega
        rw [HE.out]
        go_wp2
        go_ret
        exact ⟨rfl, rfl⟩
  · have h0' : ¬ (0 : Int) ≤ e := h0
    have HBQ : Hid (baseS L k e = bel L k) := by show _ = _; unfold baseS; rw [if_neg h0]
    clear hbel h0
    generalize bel L k = yk at ck HBQ
    go_enter Tryz.func37, Tryz.ntmps37
    go_wp2
    go_loop [9, 10] (fun sv iv => ∃ b : Nat, b ≤ L.length ∧ iv = .int .i64 (b : Int) ∧ sv = .int .i64 (frP L k e b)) (fun _ iv => L.length - (intOf iv).toNat)
    case atStart => exact ⟨0, by omega, rfl, by rw [HB0.out]; rw [HBQ.out]⟩
    case round =>
      obtain ⟨b, hb, rfl, rfl⟩ := hrel
      by_cases hlt : b < L.length
      · have hbi : (b : Int) < (L.length : Int) := by omega
        have hfb := HFB.out b (by omega)
        have HS := HST.out b
        have cn := HNOD.out b hlt
        have hnb := Nd.nodS_bd L b L.length h60
        have hc1 : ∀ W : World, Calls Tryz.prog 39 #[.int .i64 (frP L k e b), .int .i64 (b : Int)] W fun en w' => en = .returned (.bool (bit (frP L k e b) b)) ∧ W = w' := fun W => (Db.has_call _ b _ hfb.1 hfb.2 (by omega) rfl W).mono fun _ _ q => ⟨q.1, q.2.symm⟩
        have hc2 : ∀ W : World, Calls Tryz.prog 39 #[.int .i64 (nodS L b L.length), .int .i64 (k : Int)] W fun en w' => en = .returned (.bool (nodN L k b)) ∧ W = w' := fun W => (Db.has_call _ k _ hnb.1 hnb.2 (by omega) (by rw [Nd.bit_nodS L b _ h60, decide_eq_true hk]; rfl) W).mono fun _ _ q => ⟨q.1, q.2.symm⟩
        have HSS : Hid (frP L k e (b + 1) = if bit (frP L k e b) b && !nodN L k b then bits .andNot .i64 (frP L k e b) (2 ^ b) else frP L k e b) := HS
        clear HS hnb
        generalize bit (frP L k e b) b = b1 at hc1 HSS
        generalize nodN L k b = b2 at hc2 HSS
        generalize frP L k e b = fp at hc1 HSS hfb ⊢
        generalize nodS L b L.length = nv at cn hc2
        cases b1
        · have HD : Hid (frP L k e (b + 1) = fp) := by show _ = _; rw [HSS.out]; rfl
          clear HSS hc2
          go_wp2_with (go_at_call 39; refine (hc1 _).mono ?_; rintro e' w' ⟨rfl, rfl⟩)
          go_round
          case rel => exact ⟨b + 1, by omega, by go_num, by rw [HD.out]⟩
          case measure => simp [intOf]; omega
        · go_wp2_with fail
          refine (hc1 _).mono ?_
          rintro e' w' ⟨rfl, rfl⟩
          go_wp2_with fail
          refine (hc2 _).mono ?_
          rintro e' w' ⟨rfl, rfl⟩
          cases b2
          · have HD : Hid (frP L k e (b + 1) = bits .andNot .i64 fp (2 ^ b)) := by show _ = _; rw [HSS.out]; rfl
            clear HSS hc1 hc2
            go_wp2_with (go_at_call 38; refine (Base.l1Bit _ _ (by omega) (by omega)).mono ?_; rintro e' w' ⟨rfl, rfl⟩; rw [Int.toNat_natCast])
            go_round
            case rel => exact ⟨b + 1, by omega, by go_num, by rw [HD.out]⟩
            case measure => simp [intOf]; omega
          · have HD : Hid (frP L k e (b + 1) = fp) := by show _ = _; rw [HSS.out]; rfl
            clear HSS hc1 hc2
            go_wp2
            go_round
            case rel => exact ⟨b + 1, by omega, by go_num, by rw [HD.out]⟩
            case measure => simp [intOf]; omega
      · obtain rfl : b = L.length := by omega
        rw [HE.out]
        go_wp2
        go_ret
        exact ⟨rfl, rfl⟩

/-- what is fresh is within the lace -/
theorem frS_in {L : List K} (h60 : L.length ≤ 60) (k : Nat) (e : Int) : ∀ i, bit (frS L k e L.length) i = true → i < L.length := fun i hi => by
  rw [bit_frS L k e _ h60, Bool.and_eq_true, decide_eq_true_eq] at hi
  exact hi.1
/-- the document's Ordered -/
def orderedI (L : List K) (s : Int) : List Int := if setB L s then ordL L (memTo s 60) else []
/-- the document's FreshOf -/
def freshI (L : List K) (k e : Int) : List Int := if isB L k && (decide (e = -1) || isB L e) then freshL L k e else []

/-- the two tables: what is below, and who nods -/
structure TabsN (w : World) (L : List K) (bb nb : Nat) : Prop where
  bel : ∀ i, i < L.length → w.cell? ⟨bb, i, none⟩ = some (.int .i64 (Sg.bel L i))
  nod : ∀ i, i < L.length → w.cell? ⟨nb, i, none⟩ = some (.int .i64 (nodS L i L.length))
  lb : bb < w.heap.size
  ln : nb < w.heap.size
theorem TabsN.below {w w' : World} {L : List K} {bb nb : Nat} (t : TabsN w L bb nb) (hb : Below w.heap.size w w') : TabsN w' L bb nb :=
  ⟨fun i hi => (hb.cell (p := ⟨bb, i, none⟩) t.lb).trans (t.bel i hi), fun i hi => (hb.cell (p := ⟨nb, i, none⟩) t.ln).trans (t.nod i hi), Nat.lt_of_lt_of_le t.lb hb.size, Nat.lt_of_lt_of_le t.ln hb.size⟩
/-- what is below, in memory of the call's own -/
structure TabB (w : World) (L : List K) (bb : Nat) : Prop where
  bel : ∀ i, i < L.length → w.cell? ⟨bb, i, none⟩ = some (.int .i64 (Sg.bel L i))
  lb : bb < w.heap.size
theorem TabB.below {w w' : World} {L : List K} {bb : Nat} (t : TabB w L bb) (hb : Below w.heap.size w w') : TabB w' L bb := ⟨fun i hi => (hb.cell (p := ⟨bb, i, none⟩) t.lb).trans (t.bel i hi), Nat.lt_of_lt_of_le t.lb hb.size⟩
theorem TabB.rd {w : World} {L : List K} {bb : Nat} (t : TabB w L bb) : Lst.Rd w (some ⟨bb, 0, none⟩) (belows L L.length) := .inr ⟨bb, rfl, fun j hj => by
  rw [Sg.belows_len] at hj
  rw [Sg.belows_get L L.length j hj]; exact t.bel j hj⟩

theorem allB (g off cap : Nat) (L : List K) (w : World) (hl : laceB L = true) (hN : 0 < L.length) (hr : RdK w (some ⟨g, off, none⟩) L) :
    Calls Tryz.prog 20 #[.slice (some ⟨g, off, none⟩) L.length cap] w fun e w' => ∃ bb bc, e = .returned (.slice (some ⟨bb, 0, none⟩) L.length bc) ∧ TabB w' L bb ∧ Below w.heap.size w w' := by
  have h60 := ((Lc.lace_iff L).1 hl).1
  refine (Sg.l4All (some ⟨g, off, none⟩) cap L w h60 (Sg.frm_lace hl) hr).mono ?_
  rintro e w1 ⟨bo, bc, rfl, hown, hb1⟩
  have hbl := Sg.belows_len L L.length
  rcases Lst.own_rd hown with e | ⟨bb, e, hcell⟩
  · rw [e] at hbl; simp at hbl; omega
  · subst e
    refine ⟨bb, bc, by rw [hbl], ⟨fun i hi => ?_, (World.ownsRow.lt hown bb rfl).2⟩, hb1⟩
    have := hcell i (by rw [hbl]; exact hi)
    rwa [Sg.belows_get L L.length i hi] at this
theorem allN (g off cap : Nat) (L : List K) (bb bc : Nat) (w : World) (hl : laceB L = true) (hr : RdK w (some ⟨g, off, none⟩) L) (ht : TabB w L bb) :
    Calls Tryz.prog 33 #[.slice (some ⟨g, off, none⟩) L.length cap, .slice (some ⟨bb, 0, none⟩) L.length bc] w fun e w' => ∃ nb, e = .returned (.slice (some ⟨nb, 0, none⟩) L.length L.length) ∧ w.heap.size ≤ nb ∧ TabsN w' L bb nb ∧ Below w.heap.size w w' := by
  have h60 := ((Lc.lace_iff L).1 hl).1
  have hbl := Sg.belows_len L L.length
  have h6 := Nd.l6All (some ⟨g, off, none⟩) cap L (some ⟨bb, 0, none⟩) bc (belows L L.length) w h60 hbl (Sg.belows_in L L.length h60) hr ht.rd (fun c e => by injection e with e; injection e with e; subst e; exact ht.lb)
  rw [hbl] at h6
  refine h6.mono ?_
  rintro e w2 ⟨h, D, O, rfl, hge, hrow, hD, hO, hb2⟩
  exact ⟨h, rfl, hge, ⟨(ht.below hb2).bel, fun i hi => by rw [← Nd.nodR_eq hl hD hi _ (Nat.le_refl _), ← hO i hi]; exact hrow.rd i hi, (ht.below hb2).lb, hrow.lt⟩, hb2⟩
/-- the tables of a lace, the second one not yet fixed -/
structure TabsF (w : World) (L : List K) (bb h : Nat) : Prop extends Ch.TabsL w L bb h where
  fr : ∀ i, i < L.length → w.frozen? ⟨h, i, none⟩ = false
theorem allS (g off cap : Nat) (L : List K) (bb bc : Nat) (w : World) (hl : laceB L = true) (hr : RdK w (some ⟨g, off, none⟩) L) (ht : TabB w L bb) :
    Calls Tryz.prog 35 #[.slice (some ⟨g, off, none⟩) L.length cap, .slice (some ⟨bb, 0, none⟩) L.length bc] w fun e w' => ∃ h, e = .returned (.slice (some ⟨h, 0, none⟩) L.length L.length) ∧ TabsF w' L bb h ∧ Below w.heap.size w w' := by
  refine (Sl.l7All g off cap L (some ⟨bb, 0, none⟩) bc w hl hr ht.rd (fun g' e => by injection e with e; injection e with e; subst e; exact ht.lb)).mono ?_
  rintro e w2 ⟨h, O, rfl, _, hrow, hO, hb2⟩
  exact ⟨h, rfl, ⟨⟨(ht.below hb2).bel, fun i hi => by rw [← hO i hi]; exact hrow.rd i hi, (ht.below hb2).lb, hrow.lt⟩, hrow.fr⟩, hb2⟩

theorem chF_mem (L : List K) (C : List Int) : ∀ (f : Nat) (k x : Int), x ∈ Ch.chF L C f k → 0 ≤ x ∧ x ≤ k := by
  intro f
  induction f with
  | zero => intro k x h; simp [Ch.chF] at h
  | succ f ih =>
    intro k x h
    unfold Ch.chF at h
    by_cases hk : k < 0
    · rw [if_pos hk] at h; simp at h
    · rw [if_neg hk, List.mem_append] at h
      have hlt := Ch.earlier_lt L C k.toNat
      rcases h with h | h
      · have := ih _ _ h; omega
      · have : x = k := by simpa using h
        omega
theorem taleF_snoc (L : List K) : ∀ (l : List Int) (c e : Int), taleF L e (l ++ [c]) = taleF L e l ++ freshL L c (l.getLastD e) := by
  intro l
  induction l with
  | nil => intro c e; simp [taleF]
  | cons x l ih =>
    intro c e
    show freshL L x e ++ taleF L x (l ++ [c]) = (freshL L x e ++ taleF L x l) ++ freshL L c ((x :: l).getLastD e)
    rw [ih c x, List.getLastD_cons, List.append_assoc]
theorem fresh_len (L : List K) (k e : Int) : (freshL L k e).length ≤ 60 := by
  unfold freshL
  rw [ord_len]; exact Bit.memTo_le _ 60

/-- the tale so far, in a row of the call's own that lies apart from all that is read -/
structure TlSt (w w3 wr : World) (og0 og cp : Nat) (l : List Int) : Prop where
  own : wr.ownsRow w.heap.size 2 1 (.slice (some ⟨og, 0, none⟩) l.length cp) l.length (l.map (Value.int .i64))
  bel : Below w.heap.size w wr
  gr : w3.grownBy wr (some og0)
  at' : og = og0 ∨ w3.heap.size ≤ og
theorem TlSt.below {w w3 wr w' : World} {og0 og cp : Nat} {l : List Int} (s : TlSt w w3 wr og0 og cp l) (hb : Below wr.heap.size wr w') : TlSt w w3 w' og0 og cp l :=
  ⟨Fm.row_below s.own hb, s.bel.trans (hb.mono s.bel.size), World.grownBy.trans s.gr ⟨hb.os, hb.tape, hb.output, hb.size, fun i hi _ => hb.block i hi⟩, s.at'⟩
theorem TlSt.app {w w3 wr w1 : World} {og0 og cp : Nat} {l ns : List Int} {v' : Value} (s : TlSt w w3 wr og0 og cp l) (ho : w1.ownsRow w.heap.size 2 1 v' (l.length + ns.length) (l.map (Value.int .i64) ++ ns.map (Value.int .i64))) (hg : wr.grownBy w1 (some og)) (hn : ¬ v' = .slice none 0 0) (ha : v'.ownBlock = some og ∨ v'.ownBlock = some wr.heap.size) : ∃ g2 c2, v' = .slice (some ⟨g2, 0, none⟩) (l.length + ns.length) c2 ∧ TlSt w w3 w1 og0 g2 c2 (l ++ ns) := by
  have ho' := ho
  obtain ⟨_, ⟨hx, _⟩ | ⟨g2, c2, cur, hx, _⟩⟩ := ho'
  · exact absurd hx hn
  · subst hx
    have hlt := World.ownsRow.lt s.own og rfl
    refine ⟨g2, c2, rfl, by simpa using ho, s.bel.grown hg s.bel.size (fun k hk => by cases hk; exact hlt.1), ⟨hg.os.trans s.gr.os, hg.tape.trans s.gr.tape, hg.output.trans s.gr.output, Nat.le_trans s.gr.size hg.size, fun j hj hne => ?_⟩, ?_⟩
    · have h1 := s.gr.block j hj hne
      refine (hg.block j (Nat.lt_of_lt_of_le hj s.gr.size) (fun e => ?_)).trans h1
      injection e with e
      subst e
      rcases s.at' with q | q
      · exact hne (by rw [q])
      · omega
    · simp [Value.ownBlock] at ha
      rcases ha with e | e
      · subst e; exact s.at'
      · exact .inr (by have := s.gr.size; omega)

set_option maxHeartbeats 6400000 in
theorem l12Tale (g off cap : Nat) (L : List K) (ao : Option Addr) (cc : Nat) (C : List Int) (bb bc : Nat) (k : Nat) (w : World) (hl : laceB L = true) (hg : g < w.heap.size) (hr : RdK w (some ⟨g, off, none⟩) L) (hrd : Lst.Rd w ao C) (hao : ∀ c, ao = some ⟨c, 0, none⟩ → c < w.heap.size) (ht : TabB w L bb) (hk : k < L.length) :
    Calls Tryz.prog 19 #[.slice (some ⟨g, off, none⟩) L.length cap, .slice ao C.length cc, .slice (some ⟨bb, 0, none⟩) L.length bc, .int .i64 (k : Int)] w (NumsPost (taleL L C (k : Int)) w) := by
  obtain ⟨i0, hi, hz0, hz1, hz2⟩ := info_parts Memb.info2
  have h60 := ((Lc.lace_iff L).1 hl).1
  have HLC : Hid (laceB L = true) := hl
  have HR : Hid (∀ W : World, Below w.heap.size w W → RdK W (some ⟨g, off, none⟩) L) := fun W hW => hr.below hW
  have HT : Hid (∀ W : World, Below w.heap.size w W → TabB W L bb) := fun W hW => ht.below hW
  have HRD : Hid (∀ W : World, Below w.heap.size w W → Lst.Rd W ao C ∧ ∀ c, ao = some ⟨c, 0, none⟩ → c < W.heap.size) := fun W hW => ⟨Ch.rd_below hrd hao hW, fun c e => Nat.lt_of_lt_of_le (hao c e) hW.size⟩
  have HB0 : Hid (Below w.heap.size w (w.alloc (.cells #[] 2))) := (Below.refl _ _).alloc (Nat.le_refl _) _
  have HE0 : Hid ((w.alloc (.cells #[] 2)).ownsRow w.heap.size 2 1 (.slice (some ⟨w.heap.size, 0, none⟩) 0 0) 0 []) := Memb.own_empty w
  have hsz0 : w.heap.size < (w.alloc (.cells #[] 2)).heap.size := by simp
  clear hl hr hrd hao ht
  go_enter Tryz.func19, Tryz.ntmps19
  go_wp2_with fail
  generalize w.alloc (.cells #[] 2) = w0 at HB0 HE0 hsz0 ⊢
  refine (allN g off cap L bb bc w0 HLC.out (HR.out w0 HB0.out) (HT.out w0 HB0.out)).mono ?_
  rintro en w1 ⟨nb, rfl, hnb1, hT1, hb1⟩
  have HB1 : Hid (Below w.heap.size w w1) := HB0.out.trans (hb1.mono HB0.out.size)
  have HE1 : Hid (w1.ownsRow w.heap.size 2 1 (.slice (some ⟨w.heap.size, 0, none⟩) 0 0) 0 []) := Fm.row_below HE0.out hb1
  have hw01 := hb1.size
  have hn0 : nb ≠ w.heap.size := by omega
  clear hb1 HB0 HE0 hnb1
  go_wp2_with fail
  refine (allS g off cap L bb bc w1 HLC.out (HR.out w1 HB1.out) (HT.out w1 HB1.out)).mono ?_
  rintro en w2 ⟨h, rfl, hT2, hb2⟩
  have HB2 : Hid (Below w.heap.size w w2) := HB1.out.trans (hb2.mono HB1.out.size)
  have HE2 : Hid (w2.ownsRow w.heap.size 2 1 (.slice (some ⟨w.heap.size, 0, none⟩) 0 0) 0 []) := Fm.row_below HE1.out hb2
  have HN2 : Hid (TabsN w2 L bb nb) := hT1.below hb2
  have hw12 := hb2.size
  have hch := Ch.l10Chain g off cap L ao cc C bb bc h L.length k w2 HLC.out (Nat.lt_of_lt_of_le hg HB2.out.size) (HR.out w2 HB2.out) (HRD.out w2 HB2.out).1 (HRD.out w2 HB2.out).2 hT2.toTabsL hk
  clear hb2 HB1 HE1 hT1 hT2
  go_wp2_with fail
  refine hch.mono ?_
  rintro en w3 ⟨co, ccp, rfl, hoc, hb3⟩
  have HS3 : Hid (TlSt w w3 w3 w.heap.size w.heap.size 0 []) := ⟨Fm.row_below HE2.out hb3, HB2.out.trans (hb3.mono HB2.out.size), World.grownBy.refl _ _, .inl rfl⟩
  have HN3 : Hid (TabsN w3 L bb nb) := HN2.out.below hb3
  have hcl := Ch.chain_len L C (k : Int)
  have HCM : Hid (∀ x ∈ Ch.chainL L C (k : Int), 0 ≤ x ∧ x < (L.length : Int)) := fun x hx => by
    have := chF_mem L C _ _ _ hx
    omega
  have HTL : Hid (taleL L C (k : Int) = taleF L (-1) (Ch.chainL L C (k : Int))) := rfl
  have hcl2 : (Ch.chainL L C (k : Int)).length ≤ 60 := by omega
  have HCO : Hid (Ch.chainL L C (k : Int) = [] ∨ ∃ cb, co = some ⟨cb, 0, none⟩ ∧ cb ≠ w.heap.size ∧ cb < w3.heap.size ∧ ∀ j, j < (Ch.chainL L C (k : Int)).length → w3.cell? ⟨cb, j, none⟩ = some (.int .i64 ((Ch.chainL L C (k : Int)).getD j 0))) := by
    rcases Lst.own_rd hoc with e | ⟨cb, e, hc⟩
    · exact .inl e
    · subst e
      have := World.ownsRow.lt hoc cb rfl
      exact .inr ⟨cb, rfl, by omega, this.2, hc⟩
  clear hoc hb3 HB2 HE2 HN2 hch hcl
  generalize Ch.chainL L C (k : Int) = ch at HCM HTL hcl2 HCO ⊢
  go_wp2
  go_loopw [9, 11, 13] (fun v ev iv wr => ∃ (i og cp : Nat), i ≤ ch.length ∧ iv = .int .i64 (i : Int) ∧ ev = .int .i64 ((ch.take i).getLastD (-1)) ∧ v = .slice (some ⟨og, 0, none⟩) (taleF L (-1) (ch.take i)).length cp ∧ (taleF L (-1) (ch.take i)).length ≤ 60 * i ∧ Hid (TlSt w w3 wr w.heap.size og cp (taleF L (-1) (ch.take i)))) (fun _ _ iv _ => ch.length - (intOf iv).toNat)
  case atStart => exact ⟨0, w.heap.size, 0, by omega, rfl, rfl, rfl, by simp [taleF], HS3⟩
  case round =>
    obtain ⟨i, og, cp, hil, rfl, hev, hv, hln, HS⟩ := hrel
    clear HS3
    by_cases hlt : i < ch.length
    · subst hv hev
      have hii : (i : Int) < (ch.length : Int) := by omega
      rcases HCO.out with e | ⟨cb, rfl, hcb0, hcb3, hcc⟩
      · rw [e] at hlt; simp at hlt
      have HST : Hid (taleF L (-1) (ch.take (i + 1)) = taleF L (-1) (ch.take i) ++ freshL L (ch.getD i 0) ((ch.take i).getLastD (-1))) := by
        show _ = _; rw [Lc.take_snocI ch i hlt, taleF_snoc]
      have HLST : Hid ((ch.take (i + 1)).getLastD (-1) = ch.getD i 0) := by
        show _ = _; rw [Lc.take_snocI ch i hlt]; simp
      have hmem := HCM.out (ch.getD i 0) (by simp [List.getD, List.getElem?_eq_getElem hlt])
      have hlast : -1 ≤ (ch.take i).getLastD (-1) ∧ (ch.take i).getLastD (-1) < (L.length : Int) := by
        rcases hh : (ch.take i) with _ | ⟨y, ys⟩
        · simp; omega
        · have hm : (y :: ys).getLastD (-1) ∈ ch.take i := by rw [hh, List.getLastD_eq_getLast?, List.getLast?_eq_some_getLast (by simp)]; simp
          have := HCM.out _ (List.mem_of_mem_take hm)
          omega
      have cj := World.grownBy.cell HS.out.gr (hcc i hlt) (by intro q; injection q with q; exact hcb0 q)
      have HTN : Hid (TabsN wr L bb nb) := ⟨(HT.out wr HS.out.bel).bel, fun j hj => World.grownBy.cell HS.out.gr (HN3.out.nod j hj) (by intro q; injection q with q; exact hn0 q), (HT.out wr HS.out.bel).lb, Nat.lt_of_lt_of_le HN3.out.ln HS.out.gr.size⟩
      have hfl60 := fresh_len L (ch.getD i 0) ((ch.take i).getLastD (-1))
      generalize taleF L (-1) (ch.take i) = tl at HST HS hln ⊢
      have HFD : Hid (freshL L (ch.getD i 0) ((ch.take i).getLastD (-1)) = ordL L (memTo (frS L (ch.getD i 0).toNat ((ch.take i).getLastD (-1)) L.length) 60)) := rfl
      generalize (ch.take i).getLastD (-1) = el at HST hlast HFD hfl60 ⊢
      generalize ch.getD i 0 = cx at HST HLST hmem cj HFD hfl60
      obtain ⟨q, rfl⟩ := Int.eq_ofNat_of_zero_le hmem.1
      rw [Int.toNat_natCast] at HFD
      have hfr := l11Fresh bb bc nb L.length L q el wr HLC.out (by omega) hlast.1 hlast.2 HTN.out.bel HTN.out.nod
      have hfb := frS_bd L q el L.length h60
      have hor := l11Order g off cap L (frS L q el L.length) wr HLC.out (HR.out wr HS.out.bel) hfb.1 hfb.2 (frS_in h60 q el)
      rw [← HFD.out] at hor
      clear hcc HFD hfb HTN
      generalize frS L q el L.length = fr at hfr hor
      generalize freshL L (q : Int) el = fl at HST hor hfl60
      go_wp2_with fail
      refine hfr.mono ?_
      rintro en w5 ⟨rfl, rfl⟩
      clear hfr
      go_wp2_with fail
      refine hor.mono ?_
      rintro en w6 ⟨fo, fc, rfl, hof, hb6⟩
      have HS6 : Hid (TlSt w w3 w6 w.heap.size og cp tl) := HS.out.below hb6
      have cj6 := (hb6.cell (p := ⟨cb, i, none⟩) (Nat.lt_of_lt_of_le hcb3 HS.out.gr.size)).trans cj
      have hcb6 : cb < w6.heap.size := Nat.lt_of_lt_of_le (Nat.lt_of_lt_of_le hcb3 HS.out.gr.size) hb6.size
      have hogw := World.ownsRow.lt HS.out.own og rfl
      have hcog : cb ≠ og := by
        rcases HS.out.at' with q1 | q1
        · rw [q1]; exact hcb0
        · omega
      have HLN2 : Hid ((taleF L (-1) (ch.take (i + 1))).length ≤ 60 * (i + 1)) := by show _ ≤ _; rw [HST.out]; simp; omega
      have hwsz6 : w.heap.size ≤ w6.heap.size := HS6.out.bel.size
      clear hor hb6 cj HS
      cases fo with
      | none =>
        obtain ⟨_, ⟨hq, hq2⟩ | ⟨fb, fcap, cur, hq, _⟩⟩ := hof
        · injection hq with _ _ hq3
          subst hq3
          have hfn : fl = [] := List.eq_nil_of_length_eq_zero hq2
          subst hfn
          have HST2 : Hid (taleF L (-1) (ch.take (i + 1)) = tl) := by show _ = _; rw [HST.out, List.append_nil]
          have HSN : Hid (TlSt w w3 w6 w.heap.size og cp (taleF L (-1) (ch.take (i + 1)))) := by show TlSt _ _ _ _ _ _ _; rw [HST2.out]; exact HS6.out
          clear HST hq2
          go_wp2_with (first | (at_builtin; refine wpList_append_own_none rfl _ _ 23 rfl w.heap.size 2 i0 1 Tryz.underlying23 hi (.slice (some ⟨og, 0, none⟩) tl.length cp) tl.length (tl.map (Value.int .i64)) (by first | rfl | simp [Act.eval]) HS6.out.own (by first | rfl | simp [Act.eval]) ?_) | fail)
          go_wp2
          go_roundw
          case rel => exact ⟨i + 1, og, cp, by omega, by go_num, by rw [HLST.out], by rw [HST2.out], HLN2.out, HSN⟩
          case measure => simp [intOf]; omega
        · injection hq with hq _ _
          exact absurd hq (by simp)
      | some fa =>
        obtain ⟨fb, hfa, hfcell, hfb6⟩ : ∃ fb, fa = ⟨fb, 0, none⟩ ∧ (∀ j, j < fl.length → w6.cell? ⟨fb, j, none⟩ = some (.int .i64 (fl.getD j 0))) ∧ fb < w6.heap.size := by
          have hrdf := Lst.own_rd hof
          have hltf := World.ownsRow.lt hof fa.block rfl
          obtain ⟨_, ⟨hq, _⟩ | ⟨fb, fcap, cur, hq, _⟩⟩ := hof
          · injection hq with hq _ _
            exact absurd hq (by simp)
          · injection hq with hq _ _
            injection hq with hq
            subst hq
            refine ⟨fb, rfl, fun j hj => ?_, hltf.2⟩
            rcases hrdf with e | ⟨g5, e, hc5⟩
            · rw [e] at hj; simp at hj
            · injection e with e; injection e with e; subst e; exact hc5 j hj
        subst hfa
        have HNEW : Hid (∀ (j : Nat) u, (fl.map (Value.int .i64))[j]? = some u → w6.cell? ((⟨fb, 0, none⟩ : Addr).add j) = some u) := fun j u hu => by
          rw [List.getElem?_map] at hu
          rcases hj : fl[j]? with _ | y
          · rw [hj] at hu; simp at hu
          · rw [hj] at hu
            simp at hu
            subst hu
            have hjl : j < fl.length := (List.getElem?_eq_some_iff.1 hj).1
            have := hfcell j hjl
            rw [show fl.getD j 0 = y by simp [List.getD, hj]] at this
            rw [show (⟨fb, 0, none⟩ : Addr).add j = ⟨fb, j, none⟩ by simp [Addr.add]; intro e; exact e.symm]
            exact this
        have HONE : Hid (∀ u ∈ fl.map (Value.int .i64), u.oneCell' = true) := fun u hu => by
          obtain ⟨y, _, rfl⟩ := List.mem_map.1 hu; rfl
        clear hof hfcell
        go_wp2_with (first | (at_builtin; refine wpList_append_own_at _ rfl _ _ 23 rfl w.heap.size 2 i0 (.int .i64 0) 1 8 Tryz.underlying23 hi hz0 hz1 hz2 rfl (by decide) (.slice (some ⟨og, 0, none⟩) tl.length cp) tl.length (tl.map (Value.int .i64)) (by first | rfl | simp [Act.eval]) HS6.out.own ⟨fb, 0, none⟩ fl.length fc (fl.map (Value.int .i64)) (by first | rfl | simp [Act.eval]) (by simp) HNEW.out HONE.out ?c3 ?c4 ?c5 ?_) | fail)
        case c3 => unfold maxLen; omega
        case c4 => omega
        case c5 => exact hwsz6
        intro v' w7 hown' hgrow hnil hat
        obtain ⟨g2, c2, rfl, hS7⟩ := HS6.out.app hown' hgrow (by first | exact hnil | exact fun e => by have := hnil.1 e; simp at this) (by simpa [Value.ownBlock] using hat)
        have cj7 := World.grownBy.cell hgrow cj6 (by intro q1; injection q1 with q1; exact hcog q1)
        have HSN : Hid (TlSt w w3 w7 w.heap.size g2 c2 (taleF L (-1) (ch.take (i + 1)))) := by show TlSt _ _ _ _ _ _ _; rw [HST.out]; exact hS7
        have HLE : Hid ((taleF L (-1) (ch.take (i + 1))).length = tl.length + fl.length) := by show _ = _; rw [HST.out]; simp
        clear hown' hgrow hnil hat HS6 HNEW HONE hS7 cj6 HST
        go_wp2
        go_roundw
        case rel => exact ⟨i + 1, g2, c2, by omega, by go_num, by rw [HLST.out], by rw [HLE.out], HLN2.out, HSN⟩
        case measure => simp [intOf]; omega
    · obtain rfl : i = ch.length := by omega
      have e : ch.take ch.length = ch := List.take_length
      rw [e] at HS hv
      have HV : Hid (u9 = .slice (some ⟨og, 0, none⟩) (taleF L (-1) ch).length cp) := hv
      have HF : Hid (Memb.Own w.heap.size wr (some ⟨og, 0, none⟩) cp (taleF L (-1) ch) ∧ Below w.heap.size w wr) := ⟨HS.out.own, HS.out.bel⟩
      clear hv HS e hln hev
      go_wp2
      go_ret
      exact ⟨some ⟨og, 0, none⟩, cp, by rw [HTL.out, ← HV.out]; rfl, by rw [HTL.out]; exact HF.out.1, HF.out.2⟩

/-- the document's TaleOf -/
def taleI (L : List K) (C : List Int) (k : Int) : List Int := if Ch.onB L C k then taleL L C k else []
/-- the document's OutOf -/
def outI (L : List K) (C : List Int) (s : Int) : List Int := if Fm.rightB L C s then outL L C s else []

set_option maxHeartbeats 1600000 in
theorem specTaleOf (g off cap : Nat) (L : List K) (ao : Option Addr) (cc : Nat) (C : List Int) (k : Int) (w : World) (hcap : L.length ≤ cap) (hw : WordsOk L) (hg : g < w.heap.size) (hr : RdK w (some ⟨g, off, none⟩) L) (hC : C.length ≤ 1048576) (hrd : Lst.Rd w ao C) (hao : ∀ c, ao = some ⟨c, 0, none⟩ → c < w.heap.size) :
    Calls Tryz.prog 6 #[.slice (some ⟨g, off, none⟩) L.length cap, .slice ao C.length cc, .int .i64 k] w (NumsPost (taleI L C k) w) := by
  have HRD : Hid (∀ W : World, Below w.heap.size w W → Lst.Rd W ao C ∧ ∀ c, ao = some ⟨c, 0, none⟩ → c < W.heap.size) := fun W hW => ⟨Ch.rd_below hrd hao hW, fun c e => Nat.lt_of_lt_of_le (hao c e) hW.size⟩
  have hcall := Ch.l10Right g off cap L ao cc C k w hcap hw hr hC hrd hao
  have HR : Hid (RdK w (some ⟨g, off, none⟩) L) := hr
  clear hrd hao hr
  go_enter Tryz.func6, Tryz.ntmps6
  go_wp2_with fail
  refine hcall.mono ?_
  rintro e w1 ⟨rfl, hb1⟩
  clear hcall
  cases hq : Ch.onB L C k
  · have HT : Hid (taleI L C k = []) := by show _ = _; unfold taleI; rw [hq]; rfl
    have HP : Hid _ := Ch.nums_nil hb1
    clear hq
    go_wp2
    go_ret
    rw [HT.out]
    exact ⟨some ⟨w1.heap.size, 0, none⟩, 0, rfl, HP.out.1, HP.out.2⟩
  · have HT : Hid (taleI L C k = taleL L C k) := by show _ = _; unfold taleI; rw [hq]; rfl
    unfold Ch.onB at hq
    rw [Bool.and_eq_true] at hq
    obtain ⟨k0, k1, hlc⟩ := Sg.isB_parts hq.1
    have HLC : Hid (laceB L = true) := hlc
    clear hq hlc
    obtain ⟨p, rfl⟩ := Int.eq_ofNat_of_zero_le k0
    have hp : p < L.length := by omega
    go_wp2_with fail
    refine (allB g off cap L _ HLC.out (by omega) (HR.out.below hb1)).mono ?_
    rintro e w2 ⟨bb, bc, rfl, hT2, hb2⟩
    have hB2 := hb1.trans (hb2.mono hb1.size)
    have hE := l12Tale g off cap L ao cc C bb bc p w2 HLC.out (Nat.lt_of_lt_of_le hg hB2.size) (HR.out.below hB2) (HRD.out w2 hB2).1 (HRD.out w2 hB2).2 hT2 hp
    clear hb1 hb2 hT2
    go_wp2_with fail
    refine hE.mono ?_
    rintro e w4 ⟨ro, rc, rfl, hown, hb4⟩
    have HP : Hid (Memb.Own w.heap.size w4 ro rc (taleL L C (p : Int)) ∧ Below w.heap.size w w4) := ⟨Ch.own_base hown hB2.size, hB2.trans (hb4.mono hB2.size)⟩
    clear hE hb4 hB2 hown
    go_wp2
    go_ret
    rw [HT.out]
    exact ⟨ro, rc, rfl, HP.out.1, HP.out.2⟩

theorem out_none {L : List K} {C : List Int} {s : Int} (h : lastT L (firmL L C s L.length) < 0) : outL L C s = [] := by unfold outL; rw [if_pos h]
theorem out_some {L : List K} {C : List Int} {s : Int} (h : ¬ lastT L (firmL L C s L.length) < 0) : outL L C s = taleL L C (lastT L (firmL L C s L.length)) := by unfold outL; rw [if_neg h]

set_option maxHeartbeats 1600000 in
theorem l12Out (g off cap : Nat) (L : List K) (ao : Option Addr) (cc : Nat) (C : List Int) (s : Int) (w : World) (hl : laceB L = true) (hN : 0 < L.length) (hg : g < w.heap.size) (hr : RdK w (some ⟨g, off, none⟩) L) (hrd : Lst.Rd w ao C) (hao : ∀ c, ao = some ⟨c, 0, none⟩ → c < w.heap.size) (h0 : 0 ≤ s) (h1 : s < 1152921504606846976) :
    Calls Tryz.prog 29 #[.slice (some ⟨g, off, none⟩) L.length cap, .slice ao C.length cc, .int .i64 s] w (NumsPost (outL L C s) w) := by
  have h60 := ((Lc.lace_iff L).1 hl).1
  have HLC : Hid (laceB L = true) := hl
  have HRD : Hid (∀ W : World, Below w.heap.size w W → Lst.Rd W ao C ∧ ∀ c, ao = some ⟨c, 0, none⟩ → c < W.heap.size) := fun W hW => ⟨Ch.rd_below hrd hao hW, fun c e => Nat.lt_of_lt_of_le (hao c e) hW.size⟩
  have HR : Hid (RdK w (some ⟨g, off, none⟩) L) := hr
  clear hl hrd hao hr
  go_enter Tryz.func29, Tryz.ntmps29
  go_wp2_with fail
  refine (allB g off cap L _ HLC.out hN HR.out).mono ?_
  rintro e w1 ⟨bb, bc, rfl, hT1, hb1⟩
  go_wp2_with fail
  refine (allS g off cap L bb bc w1 HLC.out (HR.out.below hb1) hT1).mono ?_
  rintro e w2 ⟨h, rfl, hT2, hb2⟩
  have hB2 := hb1.trans (hb2.mono hb1.size)
  have HT2 : Hid (TabB w2 L bb) := hT1.below hb2
  have hfm := Fm.l9Firm g off cap L ao cc C h (fun i => Sl.sealS L i L.length) s w2 HLC.out (HR.out.below hB2) (Nat.lt_of_lt_of_le hg hB2.size) (HRD.out w2 hB2).1 (HRD.out w2 hB2).2 ⟨hT2.lh, hT2.sl, hT2.fr⟩ (fun _ _ => rfl) h0 h1
  clear hb1 hb2 hT1 hT2
  go_wp2_with fail
  refine hfm.mono ?_
  rintro e w3 ⟨fo, fc, rfl, hof, hb3⟩
  have HB3 : Hid (Below w.heap.size w w3) := hB2.trans (hb3.mono hB2.size)
  have HT3 : Hid (TabB w3 L bb) := HT2.out.below hb3
  have hla := Fm.l9Last g off cap L fo fc (firmL L C s L.length) w3 (fun x hx => by obtain ⟨k, rfl, hk, _⟩ := (mem_firm L C s L.length x).1 hx; omega) (by have := Fm.firmL_len L C s L.length; omega) (HR.out.below HB3.out) (Lst.own_rd hof)
  have HLS : Hid ((lastT L (firmL L C s L.length) < 0 ∧ outL L C s = []) ∨ ∃ f : Nat, lastT L (firmL L C s L.length) = (f : Int) ∧ f < L.length ∧ outL L C s = taleL L C (f : Int)) := by
    rcases last_spec L C s L.length with ⟨q, _⟩ | ⟨f, q, hf, _⟩
    · exact .inl ⟨by rw [q]; omega, out_none (by rw [q]; omega)⟩
    · exact .inr ⟨f, q, hf, by rw [out_some (by rw [q]; omega), q]⟩
  clear hfm hof hb3 hB2 HT2
  generalize firmL L C s L.length = fl at hla HLS ⊢
  generalize lastT L fl = lt at hla HLS
  go_wp2_with fail
  refine hla.mono ?_
  rintro e w4 ⟨rfl, n4, rfl⟩
  have HB4 : Hid (Below w.heap.size w (w3.drewN n4)) := Db.below_drewN HB3.out n4
  have HT4 : Hid (TabB (w3.drewN n4) L bb) := HT3.out.below (Db.below_drewN (Below.refl _ w3) n4)
  clear hla HB3 HT3
  generalize w3.drewN n4 = V at HB4 HT4 ⊢
  rcases HLS.out with ⟨hneg, ho⟩ | ⟨f, rfl, hf, ho⟩
  · have HO : Hid (outL L C s = []) := ho
    have HP : Hid _ := Ch.nums_nil HB4.out
    clear ho HLS
    go_wp2
    go_ret
    rw [HO.out]
    exact ⟨some ⟨V.heap.size, 0, none⟩, 0, rfl, HP.out.1, HP.out.2⟩
  · have HO : Hid (outL L C s = taleL L C (f : Int)) := ho
    have hf0 : ¬ (f : Int) < 0 := by omega
    have hE := l12Tale g off cap L ao cc C bb bc f V HLC.out (Nat.lt_of_lt_of_le hg HB4.out.size) (HR.out.below HB4.out) (HRD.out V HB4.out).1 (HRD.out V HB4.out).2 HT4.out hf
    clear ho HLS
    go_wp2_with fail
    refine hE.mono ?_
    rintro e w5 ⟨ro, rc, rfl, hown, hb5⟩
    have HP : Hid (Memb.Own w.heap.size w5 ro rc (taleL L C (f : Int)) ∧ Below w.heap.size w w5) := ⟨Ch.own_base hown HB4.out.size, HB4.out.trans (hb5.mono HB4.out.size)⟩
    clear hE hb5 hown HB4
    go_wp2
    go_ret
    rw [HO.out]
    exact ⟨ro, rc, rfl, HP.out.1, HP.out.2⟩

end Tl
end Go.Proofs.YtodgkhlnefggdaaGreat
