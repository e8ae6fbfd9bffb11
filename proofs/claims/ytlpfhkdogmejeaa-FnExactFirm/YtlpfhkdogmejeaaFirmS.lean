/-
  What the model's FirmOnes answers: those of a closed set that are firm; for coins of at most a million numbers and lists of knots whose words have at most 2^40 bytes.
-/
import Derived.Test.YtlpfhkdogmejeaaTaleM
import Derived.Test.YtlpfhkdogmejeaaWaveS
import Derived.Test.YtlpfhkdogmejeaaSealS
import Derived.Test.YtlpfhkdogmejeaaFam
namespace Go.Proofs.Ytlpfhkdogmejeaa
open Go.RowKit
set_option maxRecDepth 100000
namespace Fm
open Kn (K okK)
open Bit (bit withB)
open Lc (at' RdK WordsOk laceB setB handsN roundS)
open Sg (isB bel belows closedB NumsPost)
open Db (RowI)
open Sl (sealS sealN)
open Ch (leadK firmN sealAt)
open Rm (coinsB)
open Tl (firmL)

theorem row_below {base : Nat} {e : TypeId} {size : Nat} {w w' : World} {v : Value} {n : Nat} {xs : List Value} (h : w.ownsRow base e size v n xs) (hb : Below w.heap.size w w') : w'.ownsRow base e size v n xs := by
  have hlt := World.ownsRow.lt h
  obtain ⟨h1, h2⟩ := h
  refine ⟨h1, ?_⟩
  rcases h2 with h2 | ⟨g, cap, cur, rfl, hB, hg, rest⟩
  · exact .inl h2
  · exact .inr ⟨g, cap, cur, rfl, hB, (hb.block g (hlt g rfl).2).trans hg, rest⟩

/-- what the document's FirmOnes answers -/
def firmI (L : List K) (C : List Int) (s : Int) : List Int := if closedB L s && coinsB C then firmL L C s L.length else []

theorem firmL_len (L : List K) (C : List Int) (s : Int) (n : Nat) : (firmL L C s n).length ≤ n := by
  induction n with
  | zero => exact Nat.le_refl 0
  | succ n ih =>
    show (if firmN L C s n then firmL L C s n ++ [(n : Int)] else firmL L C s n).length ≤ n + 1
    split
    · simp; omega
    · omega
theorem firmL_step (L : List K) (C : List Int) (s : Int) (n : Nat) : firmL L C s (n + 1) = if firmN L C s n then firmL L C s n ++ [(n : Int)] else firmL L C s n := rfl

set_option maxHeartbeats 6400000 in
theorem l9Firm (g off cap : Nat) (L : List K) (ao : Option Addr) (cc : Nat) (C : List Int) (h : Nat) (O : Nat → Int) (s : Int) (w : World) (hl : laceB L = true) (hr : RdK w (some ⟨g, off, none⟩) L) (hg : g < w.heap.size) (hrd : Lst.Rd w ao C) (hao : ∀ c, ao = some ⟨c, 0, none⟩ → c < w.heap.size) (hrow : RowI w h L.length O) (hO : ∀ i, i < L.length → O i = sealS L i L.length) (h0 : 0 ≤ s) (h1 : s < 1152921504606846976) :
    Calls Try.prog 27 #[.slice (some ⟨g, off, none⟩) L.length cap, .slice ao C.length cc, .slice (some ⟨h, 0, none⟩) L.length L.length, .int .i64 s] w (NumsPost (firmL L C s L.length) w) := by
  obtain ⟨i0, hi, hz0, hz1, hz2⟩ := info_parts Memb.info2
  have hL := ((Lc.lace_iff L).1 hl).1
  have HLC : Hid (laceB L = true) := hl
  have HRD : Hid (∀ W : World, Below w.heap.size w W → Lst.Rd W ao C ∧ ∀ c, ao = some ⟨c, 0, none⟩ → c < W.heap.size) := fun W hW => ⟨Ch.rd_below hrd hao hW, fun c e => Nat.lt_of_lt_of_le (hao c e) hW.size⟩
  have HROW : Hid (∀ i, i < L.length → h < w.heap.size ∧ w.cell? ⟨h, i, none⟩ = some (.int .i64 (sealS L i L.length))) := fun i hi => ⟨hrow.lt, by rw [← hO i hi]; exact hrow.rd i hi⟩
  have HH : Hid (Lc.HandsOk L) := Lc.lace_hands hl
  have HR : Hid (RdK w (some ⟨g, off, none⟩) L) := hr
  clear hl hrd hao hrow hO hr
  go_enter Try.func27, Try.ntmps27
  go_wp2
  go_loopw [9, 10] (fun v i wr => ∃ k : Nat, k ≤ L.length ∧ i = .int .i64 k ∧ Hid (wr.ownsRow w.heap.size 2 1 v (firmL L C s k).length ((firmL L C s k).map (Value.int .i64))) ∧ Hid (Below w.heap.size w wr)) (fun _ i _ => L.length - (intOf i).toNat)
  case atStart => exact ⟨0, by omega, rfl, Memb.own_empty w, (Below.refl _ _).alloc (Nat.le_refl _) _⟩
  case round =>
    obtain ⟨k, hk, rfl, HOW, HB⟩ := hrel
    by_cases hlt : k < L.length
    · have hki : (k : Int) < (L.length : Int) := by omega
      have hcall : ∀ W : World, Calls Try.prog 45 #[.int .i64 s, .int .i64 (k : Int)] W fun e w' => e = .returned (.bool (bit s k)) ∧ W = w' := fun W => (Db.has_call s k (bit s k) h0 h1 (by omega) rfl W).mono fun _ _ q => ⟨q.1, q.2.symm⟩
      have HST : Hid (firmL L C s (k + 1) = if firmN L C s k then firmL L C s k ++ [(k : Int)] else firmL L C s k) := firmL_step L C s k
      have HFN : Hid (firmN L C s k = (bit s k && (leadK C (at' L k) && decide (3 ≤ handsN L (roundS L (sealAt L s k) ((at' L k).round + 2)))))) := rfl
      have hfl := firmL_len L C s k
      cases hb : bit s k
      · have HD : Hid (firmL L C s (k + 1) = firmL L C s k) := by show _ = _; rw [HST.out, HFN.out, hb]; rfl
        rw [hb] at hcall
        clear hb HST HFN
        go_wp2_with (go_at_call 45; refine (hcall _).mono ?_; rintro e w' ⟨rfl, rfl⟩)
        go_roundw
        case rel => exact ⟨k + 1, by omega, by go_num, by show World.ownsRow _ _ _ _ _ _ _; rw [HD.out]; exact HOW.out, HB⟩
        case measure => simp [intOf]; omega
      · rw [hb] at hcall
        obtain ⟨_, c0, c1, c2, c3⟩ := (HR.out.below HB.out).on k hlt
        have hrb := Lc.ok_round (Lc.can_ok (Lc.lace_upTo HLC.out k hlt))
        have hld := Ch.l8Leads ao cc C (at' L k) wr hrb.1 (by omega) (HRD.out wr HB.out).1 (HRD.out wr HB.out).2
        cases hlk : leadK C (at' L k)
        · have HD : Hid (firmL L C s (k + 1) = firmL L C s k) := by show _ = _; rw [HST.out, HFN.out, hlk]; simp
          rw [hlk] at hld
          clear hb HST HFN hlk
          generalize at' L k = kk at c0 c1 c2 c3 hld
          go_wp2_with (first | (go_at_call 45; refine (hcall _).mono ?_; rintro e w' ⟨rfl, rfl⟩) | fail)
          refine hld.mono ?_
          rintro e w1 ⟨rfl, hb1⟩
          have HO1 : Hid (w1.ownsRow w.heap.size 2 1 u9 (firmL L C s k).length ((firmL L C s k).map (Value.int .i64))) := row_below HOW.out hb1
          have HB1 : Hid (Below w.heap.size w w1) := HB.out.trans (hb1.mono HB.out.size)
          clear hld hb1 c0 c1 c2 c3 HOW HB
          go_wp2
          go_roundw
          case rel => exact ⟨k + 1, by omega, by go_num, by show World.ownsRow _ _ _ _ _ _ _; rw [HD.out]; exact HO1.out, HB1⟩
          case measure => simp [intOf]; omega
        · rw [hlk] at hld
          have HF2 : Hid (firmN L C s k = decide (3 ≤ handsN L (roundS L (sealAt L s k) ((at' L k).round + 2)))) := by show _ = _; rw [HFN.out, hb, hlk]; rfl
          have hsb := Sl.sealS_bd L k L.length hL
          have hab := Sl.and_bd s (sealS L k L.length) h0 h1 hsb.1 hsb.2
          have HSA : Hid (sealAt L s k = bits .and .i64 s (sealS L k L.length)) := rfl
          have hrbd := Lc.round_bd L (bits .and .i64 s (sealS L k L.length)) ((at' L k).round + 2) hL
          rw [HSA.out] at HF2
          clear hb HFN hlk HSA
          generalize hkk : at' L k = kk at c0 c1 c2 c3 hld HF2 hrb hrbd
          have c1' := c1
          go_wp2_with (first | (go_at_call 45; refine (hcall _).mono ?_; rintro e w' ⟨rfl, rfl⟩) | fail)
          refine hld.mono ?_
          rintro e w1 ⟨rfl, hb1⟩
          have HO1 : Hid (w1.ownsRow w.heap.size 2 1 u9 (firmL L C s k).length ((firmL L C s k).map (Value.int .i64))) := row_below HOW.out hb1
          have HB1 : Hid (Below w.heap.size w w1) := HB.out.trans (hb1.mono HB.out.size)
          have hgr : g < wr.heap.size := Nat.lt_of_lt_of_le hg HB.out.size
          have cr := (hb1.cell (p := ⟨g, off + k * 4 + 1, none⟩) hgr).trans c1
          have hgr1 : g < w1.heap.size := Nat.lt_of_lt_of_le hgr hb1.size
          have hhw := (HROW.out k hlt).1
          have cs := (HB1.out.cell (p := ⟨h, k, none⟩) hhw).trans (HROW.out k hlt).2
          have hh1 : h < w1.heap.size := Nat.lt_of_lt_of_le hhw HB1.out.size
          clear hld hb1 c0 c1 c2 c3 HOW HB hcall c1'
          go_wp2_with fail
          have HRN : Hid (∀ W : World, Below w1.heap.size w1 W → Calls Try.prog 48 #[.slice (some ⟨g, off, none⟩) L.length cap, .int .i64 (bits .and .i64 s (sealS L k L.length)), .int .i64 (kk.round + 2)] W fun e w' => e = .returned (.int .i64 (roundS L (bits .and .i64 s (sealS L k L.length)) (kk.round + 2))) ∧ W = w') := fun W hW => Lc.l3Round g off cap L _ _ W hL (HR.out.below (HB1.out.trans (hW.mono HB1.out.size))) hab.1 hab.2
          have HHN : Hid (∀ W : World, Below w1.heap.size w1 W → Calls Try.prog 47 #[.slice (some ⟨g, off, none⟩) L.length cap, .int .i64 (roundS L (bits .and .i64 s (sealS L k L.length)) (kk.round + 2))] W fun e w' => e = .returned (.int .i64 (handsN L (roundS L (bits .and .i64 s (sealS L k L.length)) (kk.round + 2)))) ∧ Below W.heap.size W w') := fun W hW => Lc.l3Hands _ cap L _ W hL (HR.out.below (HB1.out.trans (hW.mono HB1.out.size))) HH.out hrbd.1 (by omega)
          generalize roundS L (bits .and .i64 s (sealS L k L.length)) (kk.round + 2) = rs at HF2 HRN HHN hrbd
          generalize handsN L rs = hn at HF2 HHN
          generalize sealS L k L.length = z at cs hab HRN
          have hw2 : IntKind.i64.wrap (kk.round + 2) = kk.round + 2 := by rw [IntKind.wrap_i64]; omega
          generalize hrr : kk.round = rr at cr HRN hrb hw2
          obtain ⟨X, _, F, HF, HG⟩ := Fam.fam w1
          have hc1 : ∀ z, (F z).cell? ⟨g, off + k * 4 + 1, none⟩ = some (.int .i64 rr) := fun y => ((HF.out y).cell (p := ⟨g, off + k * 4 + 1, none⟩) hgr1).trans cr
          have hc2 : ∀ y, (F y).cell? ⟨h, k, none⟩ = some (.int .i64 z) := fun y => ((HF.out y).cell (p := ⟨h, k, none⟩) hh1).trans cs
          clear cr cs hrr hkk
          refine Fam.region (F := F) (by kernel_rfl) (by kernel_rfl) (HG.out _ (Below.refl _ w1).drew) ?_
          repeat (go_big_quiet_step (first
            | (go_at_call 48; exact (HRN.out _ (HF.out _)).mono fun _ _ h => ⟨h.1, _, h.2.symm⟩)
            | (go_at_call 47; exact (HHN.out _ (HF.out _)).mono fun _ _ h => ⟨h.1, HG.out _ ((HF.out _).trans (h.2.mono (HF.out _).size))⟩)))
          refine wpQuiet_nil ?_
          intro w2 hw2'
          obtain ⟨y, rfl⟩ := hw2'
          have HB2 : Hid (Below w.heap.size w (F y)) := HB1.out.trans ((HF.out y).mono HB1.out.size)
          have HO2 : Hid ((F y).ownsRow w.heap.size 2 1 u9 (firmL L C s k).length ((firmL L C s k).map (Value.int .i64))) := row_below HO1.out (HF.out y)
          clear HO1 HB1 hc1 hc2 HRN HHN
          generalize F y = V at HB2 HO2 ⊢
          by_cases h3 : 3 ≤ hn
          · have HD : Hid (firmL L C s (k + 1) = firmL L C s k ++ [(k : Int)]) := by show _ = _; rw [HST.out, HF2.out, decide_eq_true h3]; rfl
            have HOA : Hid (∀ o : Obj, (V.alloc o).ownsRow w.heap.size 2 1 u9 (firmL L C s k).length ((firmL L C s k).map (Value.int .i64))) := fun o => HO2.out.alloc o
            clear HF2 HST
            go_wp2_with (at_builtin; refine wpList_append_own _ rfl _ _ 23 rfl w.heap.size 2 i0 (.int .i64 0) 1 8 Try.underlying23 hi hz0 hz1 hz2 rfl (by decide) _ _ _ rfl (HOA.out _) ⟨V.heap.size, 0, none⟩ 1 1 [.int .i64 (k : Int)] rfl rfl (Sg.one_new V (k : Int) _) (Sg.one_one (k : Int)) ?c3 ?c4 ?c5 ?_)
            case c3 => unfold maxLen; omega
            case c4 => omega
            case c5 => have := HB2.out.size; simp; omega
            intro v' w3 hown' hgrow _
            have R := Memb.rel_put HD.out HB2.out.size HO2.out HB2.out hown' hgrow
            have HO3 : Hid _ := R.1
            have HB3 : Hid _ := R.2.1
            clear hown' hgrow R HO2 HB2 HOA
            go_wp2
            go_roundw
            case rel => exact ⟨k + 1, by omega, by go_num, HO3, HB3⟩
            case measure => simp [intOf]; omega
          · have HD : Hid (firmL L C s (k + 1) = firmL L C s k) := by show _ = _; rw [HST.out, HF2.out, decide_eq_false h3]; rfl
            clear HF2 HST
            go_wp2
            go_roundw
            case rel => exact ⟨k + 1, by omega, by go_num, by show World.ownsRow _ _ _ _ _ _ _; rw [HD.out]; exact HO2.out, HB2⟩
            case measure => simp [intOf]; omega
    · obtain rfl : k = L.length := by omega
      obtain ⟨bo, bc, hv, hown⟩ := Memb.own_shape HOW.out
      have HV : Hid (u9 = .slice bo (firmL L C s L.length).length bc) := hv
      clear hv
      go_wp2
      go_ret
      exact ⟨bo, bc, by rw [← HV.out]; rfl, hown, HB.out⟩

/-- a set that is closed, and coins -/
def rightB (L : List K) (C : List Int) (s : Int) : Bool := closedB L s && coinsB C

set_option maxHeartbeats 800000 in
theorem l9Right (g off cap : Nat) (L : List K) (ao : Option Addr) (cc : Nat) (C : List Int) (s : Int) (w : World) (hcap : L.length ≤ cap) (hw : WordsOk L) (hr : RdK w (some ⟨g, off, none⟩) L) (hC : C.length ≤ 1048576) (hrd : Lst.Rd w ao C) (hao : ∀ c, ao = some ⟨c, 0, none⟩ → c < w.heap.size) :
    Calls Try.prog 26 #[.slice (some ⟨g, off, none⟩) L.length cap, .slice ao C.length cc, .int .i64 s] w fun e w' => e = .returned (.bool (rightB L C s)) ∧ Below w.heap.size w w' := by
  go_enter Try.func26, Try.ntmps26
  go_wp2_with fail
  refine (Sg.specClosed g off cap L s _ hcap hw hr).mono ?_
  rintro e w1 ⟨rfl, hb1⟩
  have hcall := Rm.specCoinsOk ao cc C w1 hC (Ch.rd_below hrd hao hb1)
  have HT : Hid (rightB L C s = (closedB L s && coinsB C)) := rfl
  clear hrd hao hr
  generalize closedB L s = b1 at HT ⊢
  generalize coinsB C = b2 at HT hcall
  cases b1
  · clear hcall
    go_wp2
    go_ret
    exact ⟨by rw [HT.out]; rfl, hb1⟩
  · go_wp2_with (go_at_call 44; refine hcall.mono ?_; rintro e w' ⟨rfl, rfl⟩)
    go_ret
    exact ⟨by rw [HT.out]; rfl, hb1⟩

theorem closed_set {L : List K} {s : Int} (h : closedB L s = true) : laceB L = true ∧ 0 ≤ s ∧ s < 1152921504606846976 := by
  unfold Sg.closedB at h
  rw [Bool.and_eq_true] at h
  obtain ⟨hl, q0, q1, _⟩ := Lc.setB_parts h.1
  exact ⟨hl, q0, q1⟩

set_option maxHeartbeats 1600000 in
theorem specFirmOnes (g off cap : Nat) (L : List K) (ao : Option Addr) (cc : Nat) (C : List Int) (s : Int) (w : World) (hcap : L.length ≤ cap) (hw : WordsOk L) (hg : g < w.heap.size) (hr : RdK w (some ⟨g, off, none⟩) L) (hC : C.length ≤ 1048576) (hrd : Lst.Rd w ao C) (hao : ∀ c, ao = some ⟨c, 0, none⟩ → c < w.heap.size) :
    Calls Try.prog 13 #[.slice (some ⟨g, off, none⟩) L.length cap, .slice ao C.length cc, .int .i64 s] w (NumsPost (firmI L C s) w) := by
  have HRD : Hid (∀ W : World, Below w.heap.size w W → Lst.Rd W ao C ∧ ∀ c, ao = some ⟨c, 0, none⟩ → c < W.heap.size) := fun W hW => ⟨Ch.rd_below hrd hao hW, fun c e => Nat.lt_of_lt_of_le (hao c e) hW.size⟩
  have hcall := l9Right g off cap L ao cc C s w hcap hw hr hC hrd hao
  have HR : Hid (RdK w (some ⟨g, off, none⟩) L) := hr
  clear hrd hao hr
  cases hq : rightB L C s
  · have HT : Hid (firmI L C s = []) := by show _ = _; unfold firmI; rw [show (closedB L s && coinsB C) = false from hq]; rfl
    rw [hq] at hcall
    clear hq
    go_enter Try.func13, Try.ntmps13
    go_wp2_with fail
    refine hcall.mono ?_
    rintro e w1 ⟨rfl, hb1⟩
    clear hcall
    have HP : Hid ((w1.alloc (.cells #[] 2)).ownsRow w.heap.size 2 1 (.slice (some ⟨w1.heap.size, 0, none⟩) 0 0) 0 [] ∧ Below w.heap.size w (w1.alloc (.cells #[] 2))) := by
      refine ⟨?_, hb1.alloc hb1.size _⟩
      obtain ⟨a1, a2⟩ := Memb.own_empty w1
      refine ⟨a1, ?_⟩
      rcases a2 with a2 | ⟨g2, c2, cur, e1, e2, rest⟩
      · exact .inl a2
      · exact .inr ⟨g2, c2, cur, e1, Nat.le_trans hb1.size e2, rest⟩
    go_wp2
    go_ret
    rw [HT.out]
    exact ⟨some ⟨w1.heap.size, 0, none⟩, 0, rfl, HP.out.1, HP.out.2⟩
  · have HT : Hid (firmI L C s = firmL L C s L.length) := by show _ = _; unfold firmI; rw [show (closedB L s && coinsB C) = true from hq]; rfl
    rw [hq] at hcall
    have hcl : closedB L s = true := by unfold rightB at hq; rw [Bool.and_eq_true] at hq; exact hq.1
    obtain ⟨hl, h0, h1⟩ := closed_set hcl
    have HLC : Hid (laceB L = true) := hl
    clear hq hcl hl
    rw [HT.out]
    go_enter Try.func13, Try.ntmps13
    go_wp2_with fail
    refine hcall.mono ?_
    rintro e w1 ⟨rfl, hb1⟩
    clear hcall
    go_wp2_with fail
    refine (Sl.table7 g off cap L _ HLC.out (HR.out.below hb1)).mono ?_
    rintro e w2 ⟨bo, bc, rfl, hb2, h7⟩
    have hB2 := hb1.trans (hb2.mono hb1.size)
    clear hb1 hb2
    go_wp2_with fail
    refine h7.mono ?_
    rintro e w3 ⟨hh, O, rfl, _, hrow, hO, hb3⟩
    have hB3 := hB2.trans (hb3.mono hB2.size)
    have hfm := l9Firm g off cap L ao cc C hh O s w3 HLC.out (HR.out.below hB3) (Nat.lt_of_lt_of_le hg hB3.size) (HRD.out w3 hB3).1 (HRD.out w3 hB3).2 hrow hO h0 h1
    clear hb3 hB2 hrow hO h7
    go_wp2_with fail
    refine hfm.mono ?_
    rintro e w4 ⟨ro, rc, rfl, hown, hb4⟩
    have HP : Hid (Memb.Own w.heap.size w4 ro rc (firmL L C s L.length) ∧ Below w.heap.size w w4) := ⟨by
      obtain ⟨a1, a2⟩ := hown
      refine ⟨a1, ?_⟩
      rcases a2 with a2 | ⟨g2, c2, cur, e1, e2, rest⟩
      · exact .inl a2
      · exact .inr ⟨g2, c2, cur, e1, Nat.le_trans hB3.size e2, rest⟩, hB3.trans (hb4.mono hB3.size)⟩
    clear hown hb4 hB3 hfm
    go_wp2
    go_ret
    exact ⟨ro, rc, rfl, HP.out.1, HP.out.2⟩

/-- the document's Firm -/
def firmB (L : List K) (C : List Int) (s k : Int) : Bool := (firmI L C s).contains k
theorem has_step (l : List Int) (k : Int) (j : Nat) (hj : j < l.length) : (l.take (j + 1)).contains k = ((l.take j).contains k || (l.getD j 0 == k)) := by
  rw [Lc.take_snocI l j hj]
  generalize l.getD j 0 = y
  generalize l.take j = t
  rw [Bool.eq_iff_iff]
  simp only [List.contains_iff_mem, List.mem_append, List.mem_singleton, Bool.or_eq_true, beq_iff_eq]
  exact or_congr Iff.rfl eq_comm

theorem firmI_len (L : List K) (C : List Int) (s : Int) : (firmI L C s).length ≤ L.length := by
  unfold firmI; split
  · exact firmL_len L C s _
  · simp

set_option maxHeartbeats 1600000 in
theorem specFirm (g off cap : Nat) (L : List K) (ao : Option Addr) (cc : Nat) (C : List Int) (s k : Int) (w : World) (hL : L.length ≤ 1048576) (hcap : L.length ≤ cap) (hw : WordsOk L) (hg : g < w.heap.size) (hr : RdK w (some ⟨g, off, none⟩) L) (hC : C.length ≤ 1048576) (hrd : Lst.Rd w ao C) (hao : ∀ c, ao = some ⟨c, 0, none⟩ → c < w.heap.size) :
    Calls Try.prog 7 #[.slice (some ⟨g, off, none⟩) L.length cap, .slice ao C.length cc, .int .i64 s, .int .i64 k] w fun e w' => e = .returned (.bool (firmB L C s k)) ∧ Below w.heap.size w w' := by
  have hcall := specFirmOnes g off cap L ao cc C s w hcap hw hg hr hC hrd hao
  have HT : Hid (firmB L C s k = (firmI L C s).contains k) := rfl
  have hfl := firmI_len L C s
  clear hrd hao hr
  go_enter Try.func7, Try.ntmps7
  go_wp2_with fail
  refine hcall.mono ?_
  rintro e w1 ⟨fo, fc, rfl, hown, hb1⟩
  have hrd1 := Lst.own_rd hown
  clear hown hcall
  generalize firmI L C s = l at HT hfl hrd1 ⊢
  go_wp2
  go_loop [10] (fun i => ∃ j : Nat, j ≤ l.length ∧ i = .int .i64 j ∧ Hid ((l.take j).contains k = false)) (fun i => l.length - (intOf i).toNat)
  case atStart => exact ⟨0, by omega, rfl, rfl⟩
  case round =>
    obtain ⟨j, hj, rfl, HN⟩ := hrel
    by_cases hlt : j < l.length
    · have hji : (j : Int) < (l.length : Int) := by omega
      have HS : Hid ((l.take (j + 1)).contains k = ((l.take j).contains k || (l.getD j 0 == k))) := has_step l k j hlt
      have HY : Hid ((l.getD j 0 == k) = true → l.contains k = true) := fun q => by
        have e : l.getD j 0 = k := by simpa using q
        rw [← e]
        simp [List.getD, List.getElem?_eq_getElem hlt]
      rcases hrd1 with hrd1 | ⟨bb, rfl, hcell⟩
      · rw [hrd1] at hlt; simp at hlt
      have cj := hcell j hlt
      clear hcell
      generalize l.getD j 0 = y at HS cj HY
      cases hq : (y == k)
      · have HN2 : Hid ((l.take (j + 1)).contains k = false) := by show _ = _; rw [HS.out, HN.out, hq]; rfl
        clear HS HY HN
        go_wp2
        go_round
        case rel => exact ⟨j + 1, by omega, by go_num, HN2⟩
        case measure => simp [intOf]; omega
      · have HT2 : Hid (firmB L C s k = true) := by show _ = _; rw [HT.out]; exact HY.out hq
        clear HS HY HN HT
        go_wp2
        go_ret
        exact ⟨by rw [HT2.out]; rfl, hb1⟩
    · obtain rfl : j = l.length := by omega
      have HT2 : Hid (firmB L C s k = false) := by show _ = _; rw [HT.out]; have := HN.out; rwa [List.take_length] at this
      clear HN HT
      go_wp2
      go_ret
      exact ⟨by rw [HT2.out]; rfl, hb1⟩

theorem last_mem (L : List K) (l : List Int) : Tl.lastT L l = -1 ∨ Tl.lastT L l ∈ l := by
  suffices H : ∀ n, n ≤ l.length → Tl.lastT L (l.take n) = -1 ∨ Tl.lastT L (l.take n) ∈ l.take n by
    have := H l.length (Nat.le_refl _)
    rwa [List.take_length] at this
  intro n
  induction n with
  | zero => intro _; exact .inl rfl
  | succ n ih =>
    intro hn
    rw [Lc.take_snocI l n (by omega), Tl.lastT_snoc]
    split
    · exact .inr (by simp)
    · rcases ih (by omega) with e | e
      · rename_i hc
        exact absurd (.inl (by rw [e]; omega)) hc
      · exact .inr (by simp only [List.mem_append]; exact .inl e)

set_option maxHeartbeats 1600000 in
theorem l9Last (g off cap : Nat) (L : List K) (lo : Option Addr) (lc : Nat) (l : List Int) (w : World) (hin : ∀ x ∈ l, 0 ≤ x ∧ x < (L.length : Int)) (hll : l.length ≤ 1048576) (hr : RdK w (some ⟨g, off, none⟩) L) (hrd : Lst.Rd w lo l) :
    Calls Try.prog 35 #[.slice (some ⟨g, off, none⟩) L.length cap, .slice lo l.length lc] w fun e w' => e = .returned (.int .i64 (Tl.lastT L l)) ∧ ∃ n, w' = w.drewN n := by
  have HIN : Hid (∀ x ∈ l, 0 ≤ x ∧ x < (L.length : Int)) := hin
  clear hin
  go_enter Try.func35, Try.ntmps35
  go_wp2
  go_loopw [5, 6] (fun o i wr => ∃ j : Nat, j ≤ l.length ∧ i = .int .i64 j ∧ o = .int .i64 (Tl.lastT L (l.take j)) ∧ ∃ n, wr = w.drewN n) (fun _ i _ => l.length - (intOf i).toNat)
  case atStart => exact ⟨0, by omega, rfl, rfl, 0, rfl⟩
  case round =>
    obtain ⟨j, hj, rfl, rfl, n, rfl⟩ := hrel
    by_cases hlt : j < l.length
    · have hji : (j : Int) < (l.length : Int) := by omega
      have HST : Hid (Tl.lastT L (l.take (j + 1)) = if Tl.lastT L (l.take j) < 0 ∨ (at' L (Tl.lastT L (l.take j)).toNat).round < (at' L (l.getD j 0).toNat).round then l.getD j 0 else Tl.lastT L (l.take j)) := by
        show _ = _; rw [Lc.take_snocI l j hlt, Tl.lastT_snoc]
      have hmem : l.getD j 0 ∈ l := by simp [List.getD, List.getElem?_eq_getElem hlt]
      have hx := HIN.out _ hmem
      have HO : Hid (Tl.lastT L (l.take j) = -1 ∨ ∃ e : Nat, Tl.lastT L (l.take j) = (e : Int) ∧ e < L.length) := by
        rcases last_mem L (l.take j) with e | e
        · exact .inl e
        · have hb := HIN.out _ (List.mem_of_mem_take e)
          exact .inr ⟨(Tl.lastT L (l.take j)).toNat, by omega, by omega⟩
      rcases hrd with hrd | ⟨lb, rfl, hcell⟩
      · rw [hrd] at hlt; simp at hlt
      have cj := hcell j hlt
      clear hcell hmem
      generalize l.getD j 0 = xx at cj hx HST
      obtain ⟨p, rfl⟩ := Int.eq_ofNat_of_zero_le hx.1
      have hp : p < L.length := by omega
      have hpi : (p : Int) < (L.length : Int) := by omega
      rw [Int.toNat_natCast] at HST
      obtain ⟨_, _, c1, _, _⟩ := hr.on p hp
      have HRO : Hid (∀ e : Nat, e < L.length → w.cell? ⟨g, off + e * 4 + 1, none⟩ = some (.int .i64 (at' L e).round)) := fun e he => by obtain ⟨_, _, q, _, _⟩ := hr.on e he; exact q
      generalize Tl.lastT L (l.take j) = oo at HST HO ⊢
      generalize (at' L p).round = rp at c1 HST
      rcases HO.out with e | ⟨e, rfl, hex⟩
      · subst e
        have HD : Hid (Tl.lastT L (l.take (j + 1)) = (p : Int)) := by show _ = _; rw [HST.out, if_pos (.inl (by omega))]
        clear HST HO HRO
        go_wp2_with fail
        go_quiet (fail)
        go_wp2
        go_roundw
        case rel => exact ⟨j + 1, by omega, by go_num, by rw [HD.out], n + nq, rfl⟩
        case measure => simp [intOf]; omega
      · have ce := HRO.out e hex
        have hei : (e : Int) < (L.length : Int) := by omega
        have he0 : decide ((e : Int) < 0) = false := decide_eq_false (by omega)
        rw [Int.toNat_natCast] at HST
        generalize (at' L e).round = er at ce HST
        clear HO HRO
        by_cases hrr : er < rp
        · have HD : Hid (Tl.lastT L (l.take (j + 1)) = (p : Int)) := by show _ = _; rw [HST.out, if_pos (.inr hrr)]
          clear HST
          go_wp2_with fail
          go_quiet (fail)
          go_wp2
          go_roundw
          case rel => exact ⟨j + 1, by omega, by go_num, by rw [HD.out], n + nq, rfl⟩
          case measure => simp [intOf]; omega
        · have HD : Hid (Tl.lastT L (l.take (j + 1)) = (e : Int)) := by show _ = _; rw [HST.out, if_neg (by omega)]
          clear HST
          go_wp2_with fail
          go_quiet (fail)
          go_wp2
          go_roundw
          case rel => exact ⟨j + 1, by omega, by go_num, by rw [HD.out], n + nq, rfl⟩
          case measure => simp [intOf]; omega
    · obtain rfl : j = l.length := by omega
      have e : l.take l.length = l := List.take_length
      rw [e]
      go_wp2
      go_ret
      exact ⟨rfl, n, rfl⟩

theorem firmI_in {L : List K} {C : List Int} {s : Int} : ∀ x ∈ firmI L C s, 0 ≤ x ∧ x < (L.length : Int) := by
  intro x hx
  unfold firmI at hx
  split at hx
  · obtain ⟨k, rfl, hk, _⟩ := (Tl.mem_firm L C s L.length x).1 hx
    omega
  · exact absurd hx (by simp)
/-- the document's LastFirm -/
def lastI (L : List K) (C : List Int) (s : Int) : Int := Tl.lastT L (firmI L C s)

set_option maxHeartbeats 800000 in
theorem specLastFirm (g off cap : Nat) (L : List K) (ao : Option Addr) (cc : Nat) (C : List Int) (s : Int) (w : World) (hL : L.length ≤ 1048576) (hcap : L.length ≤ cap) (hw : WordsOk L) (hg : g < w.heap.size) (hr : RdK w (some ⟨g, off, none⟩) L) (hC : C.length ≤ 1048576) (hrd : Lst.Rd w ao C) (hao : ∀ c, ao = some ⟨c, 0, none⟩ → c < w.heap.size) :
    Calls Try.prog 18 #[.slice (some ⟨g, off, none⟩) L.length cap, .slice ao C.length cc, .int .i64 s] w fun e w' => e = .returned (.int .i64 (lastI L C s)) ∧ Below w.heap.size w w' := by
  have hcall := specFirmOnes g off cap L ao cc C s w hcap hw hg hr hC hrd hao
  have hfl := firmI_len L C s
  have HIN : Hid (∀ x ∈ firmI L C s, 0 ≤ x ∧ x < (L.length : Int)) := firmI_in
  have HT : Hid (lastI L C s = Tl.lastT L (firmI L C s)) := rfl
  have HR : Hid (RdK w (some ⟨g, off, none⟩) L) := hr
  clear hrd hao hr
  go_enter Try.func18, Try.ntmps18
  go_wp2_with fail
  refine hcall.mono ?_
  rintro e w1 ⟨fo, fc, rfl, hown, hb1⟩
  have hrd1 := Lst.own_rd hown
  clear hown hcall
  generalize firmI L C s = l at HT hfl hrd1 HIN ⊢
  have hla := l9Last g off cap L fo fc l w1 HIN.out (by omega) (HR.out.below hb1) hrd1
  go_wp2_with fail
  refine hla.mono ?_
  rintro e w2 ⟨rfl, n, rfl⟩
  have HB2 : Hid (Below w.heap.size w (w1.drewN n)) := Db.below_drewN hb1 n
  clear hla hb1 hrd1
  go_wp2
  go_ret
  exact ⟨by rw [HT.out]; rfl, HB2.out⟩

end Fm
end Go.Proofs.Ytlpfhkdogmejeaa
