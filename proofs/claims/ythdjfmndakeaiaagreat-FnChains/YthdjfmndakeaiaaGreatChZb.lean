/-
  What the program's own Seals, Sealers and SealedOf answer, in the words of SealM; for lists of knots whose words have at most 2^40 bytes.
  What the model's FirmOnes answers: those of a closed set that are firm; for coins of at most a million numbers and lists of knots whose words have at most 2^40 bytes.
  What the model's Earlier, ChainOf and OnChain answer: from leader to leader; for coins of at most a million numbers and lists of knots whose words have at most 2^40 bytes.
  What the model's drawings for the laws on the firm ones and on chains hand back, where the drawing of a room keeps its word.
  What the laws on those that are firm answer, where the drawing of a room keeps its word and the program's Firm, FirmOnes and LastFirm answer as they should: true at every code.
  Plain mathematics of chains, link by link: each is the leader before the next, and its chain is what the chain has up to it. No program in it.
  What the model's drawing for chains hands back, where the drawing of a room keeps its word.
  What the program lays out hand by hand: those of a set that each hand tied; for laces of at most 60 knots, their hands 0 to 3.
  What the program's own Doubled and DoublesOf answer, in the words of DoubM; for lists of knots whose words have at most 2^40 bytes.
  What the program's own CoinsOk, WaveOf, LeaderOf and Leads answer, in the words of WaveM; for coins of at most 2^20 numbers and lists of knots whose words have at most 2^40 bytes.
  What the program's only and askSetAndKnot answer, whatever function they are handed: in plain words.
  What the program's own Nods and Nodders answer, in the words of NodM; for lists of knots whose words have at most 2^40 bytes.
-/
import Derived.Test.YthdjfmndakeaiaaGreatChZa
import Derived.Test.YthdjfmndakeaiaaGreatFam
import Derived.Test.YthdjfmndakeaiaaGreatRoomXm
import Derived.Test.YthdjfmndakeaiaaGreatLike
import Derived.Deep.RegionHeld3
import Derived.Test.YthdjfmndakeaiaaGreatLaceB
import Derived.Test.YthdjfmndakeaiaaGreatDoubS
import Derived.Test.YthdjfmndakeaiaaGreatLaceE
import Derived.ChangeKeysEq
namespace Go.Proofs.YthdjfmndakeaiaaGreat
open Go.RowKit
set_option maxRecDepth 100000
namespace Fm
open Kn (K okK)
open Bit (bit withB)
open Lc (at' RdK WordsOk laceB setB handsN roundS)
open Sg (isB bel belows closedB NumsPost)
open Db (RowI)
open Sl (sealS sealN)
open Ch (leadK firmN sealAt)
open Rm (coinsB)
open Tl (firmL)

theorem row_below {base : Nat} {e : TypeId} {size : Nat} {w w' : World} {v : Value} {n : Nat} {xs : List Value} (h : w.ownsRow base e size v n xs) (hb : Below w.heap.size w w') : w'.ownsRow base e size v n xs := by
  have hlt := World.ownsRow.lt h
  obtain ⟨h1, h2⟩ := h
  refine ⟨h1, ?_⟩
  rcases h2 with h2 | ⟨g, cap, cur, rfl, hB, hg, rest⟩
  · exact .inl h2
  · exact .inr ⟨g, cap, cur, rfl, hB, (hb.block g (hlt g rfl).2).trans hg, rest⟩

/-- what the document's FirmOnes answers -/
def firmI (L : List K) (C : List Int) (s : Int) : List Int := if closedB L s && coinsB C then firmL L C s L.length else []

theorem firmL_len (L : List K) (C : List Int) (s : Int) (n : Nat) : (firmL L C s n).length ≤ n := by
  induction n with
  | zero => exact Nat.le_refl 0
  | succ n ih =>
    show (if firmN L C s n then firmL L C s n ++ [(n : Int)] else firmL L C s n).length ≤ n + 1
    split
    · simp; omega
    · omega
theorem firmL_step (L : List K) (C : List Int) (s : Int) (n : Nat) : firmL L C s (n + 1) = if firmN L C s n then firmL L C s n ++ [(n : Int)] else firmL L C s n := rfl

/-- a set that is closed, and coins -/
def rightB (L : List K) (C : List Int) (s : Int) : Bool := closedB L s && coinsB C

theorem closed_set {L : List K} {s : Int} (h : closedB L s = true) : laceB L = true ∧ 0 ≤ s ∧ s < 1152921504606846976 := by
  unfold Sg.closedB at h
  rw [Bool.and_eq_true] at h
  obtain ⟨hl, q0, q1, _⟩ := Lc.setB_parts h.1
  exact ⟨hl, q0, q1⟩

/-- the document's Firm -/
def firmB (L : List K) (C : List Int) (s k : Int) : Bool := (firmI L C s).contains k
theorem has_step (l : List Int) (k : Int) (j : Nat) (hj : j < l.length) : (l.take (j + 1)).contains k = ((l.take j).contains k || (l.getD j 0 == k)) := by
  rw [Lc.take_snocI l j hj]
  generalize l.getD j 0 = y
  generalize l.take j = t
  rw [Bool.eq_iff_iff]
  simp only [List.contains_iff_mem, List.mem_append, List.mem_singleton, Bool.or_eq_true, beq_iff_eq]
  exact or_congr Iff.rfl eq_comm

theorem firmI_len (L : List K) (C : List Int) (s : Int) : (firmI L C s).length ≤ L.length := by
  unfold firmI; split
  · exact firmL_len L C s _
  · simp

theorem last_mem (L : List K) (l : List Int) : Tl.lastT L l = -1 ∨ Tl.lastT L l ∈ l := by
  suffices H : ∀ n, n ≤ l.length → Tl.lastT L (l.take n) = -1 ∨ Tl.lastT L (l.take n) ∈ l.take n by
    have := H l.length (Nat.le_refl _)
    rwa [List.take_length] at this
  intro n
  induction n with
  | zero => intro _; exact .inl rfl
  | succ n ih =>
    intro hn
    rw [Lc.take_snocI l n (by omega), Tl.lastT_snoc]
    split
    · exact .inr (by simp)
    · rcases ih (by omega) with e | e
      · rename_i hc
        exact absurd (.inl (by rw [e]; omega)) hc
      · exact .inr (by simp only [List.mem_append]; exact .inl e)

theorem firmI_in {L : List K} {C : List Int} {s : Int} : ∀ x ∈ firmI L C s, 0 ≤ x ∧ x < (L.length : Int) := by
  intro x hx
  unfold firmI at hx
  split at hx
  · obtain ⟨k, rfl, hk, _⟩ := (Tl.mem_firm L C s L.length x).1 hx
    omega
  · exact absurd hx (by simp)
/-- the document's LastFirm -/
def lastI (L : List K) (C : List Int) (s : Int) : Int := Tl.lastT L (firmI L C s)

end Fm
end Go.Proofs.YthdjfmndakeaiaaGreat

namespace Go.Proofs.YthdjfmndakeaiaaGreat
open Go.RowKit
set_option maxRecDepth 100000
namespace Ch
open Kn (K okK)
open Bit (bit withB)
open Lc (at' RdK WordsOk laceB)
open Sg (isB bel belows NumsPost)
open Db (RowI)
open Sl (sealS sealN)
open Rm (coinsB)

/-- the two tables of a lace: what is below, and who seals -/
structure TabsL (w : World) (L : List K) (bb h : Nat) : Prop where
  bel : ∀ i, i < L.length → w.cell? ⟨bb, i, none⟩ = some (.int .i64 (Sg.bel L i))
  sl : ∀ i, i < L.length → w.cell? ⟨h, i, none⟩ = some (.int .i64 (sealS L i L.length))
  lb : bb < w.heap.size
  lh : h < w.heap.size
theorem TabsL.below {w w' : World} {L : List K} {bb h : Nat} (t : TabsL w L bb h) (hb : Below w.heap.size w w') : TabsL w' L bb h :=
  ⟨fun i hi => (hb.cell (p := ⟨bb, i, none⟩) t.lb).trans (t.bel i hi), fun i hi => (hb.cell (p := ⟨h, i, none⟩) t.lh).trans (t.sl i hi), Nat.lt_of_lt_of_le t.lb hb.size, Nat.lt_of_lt_of_le t.lh hb.size⟩

theorem earI_step (L : List K) (C : List Int) (k n : Nat) : earI L C k (n + 1) = if earN L C k n && (decide (earI L C k n < 0) || decide ((at' L (earI L C k n).toNat).round < (at' L n).round)) then (n : Int) else earI L C k n := rfl
theorem earI_bd (L : List K) (C : List Int) (k n : Nat) : earI L C k n = -1 ∨ ∃ e : Nat, earI L C k n = (e : Int) ∧ e < n := by
  rcases ear_spec L C k n with ⟨h, _⟩ | ⟨e, h, he, _⟩
  · exact .inl h
  · exact .inr ⟨e, h, he⟩

set_option maxHeartbeats 12800000 in
theorem l10Earlier (g off cap : Nat) (L : List K) (ao : Option Addr) (cc : Nat) (C : List Int) (bb bc h hc : Nat) (k : Nat) (w : World) (hl : laceB L = true) (hg : g < w.heap.size) (hr : RdK w (some ⟨g, off, none⟩) L) (hrd : Lst.Rd w ao C) (hao : ∀ c, ao = some ⟨c, 0, none⟩ → c < w.heap.size) (ht : TabsL w L bb h) (hk : k < L.length) :
    Calls Tryz.prog 32 #[.slice (some ⟨g, off, none⟩) L.length cap, .slice ao C.length cc, .slice (some ⟨bb, 0, none⟩) L.length bc, .slice (some ⟨h, 0, none⟩) L.length hc, .int .i64 (k : Int)] w fun e w' => e = .returned (.int .i64 (earlierN L C k)) ∧ Below w.heap.size w w' := by
  have hL := ((Lc.lace_iff L).1 hl).1
  have HLC : Hid (laceB L = true) := hl
  have HRD : Hid (∀ W : World, Below w.heap.size w W → Lst.Rd W ao C ∧ ∀ c, ao = some ⟨c, 0, none⟩ → c < W.heap.size) := fun W hW => ⟨rd_below hrd hao hW, fun c e => Nat.lt_of_lt_of_le (hao c e) hW.size⟩
  have HR : Hid (RdK w (some ⟨g, off, none⟩) L) := hr
  have HT : Hid (TabsL w L bb h) := ht
  have hki : (k : Int) < (L.length : Int) := by omega
  clear hl hrd hao hr ht
  go_enter Tryz.func32, Tryz.ntmps32
  go_wp2
  go_loopw [11, 12] (fun o i wr => ∃ x : Nat, x ≤ k ∧ i = .int .i64 x ∧ o = .int .i64 (earI L C k x) ∧ Hid (Below w.heap.size w wr)) (fun _ i _ => k - (intOf i).toNat)
  case atStart => exact ⟨0, by omega, rfl, rfl, Below.refl _ _⟩
  case round =>
    obtain ⟨x, hx, rfl, rfl, HB⟩ := hrel
    by_cases hlt : x < k
    · have hxk : (x : Int) < (k : Int) := by omega
      have hxL : x < L.length := by omega
      have hxi : (x : Int) < (L.length : Int) := by omega
      have HST : Hid (earI L C k (x + 1) = if earN L C k x && (decide (earI L C k x < 0) || decide ((at' L (earI L C k x).toNat).round < (at' L x).round)) then (x : Int) else earI L C k x) := earI_step L C k x
      have HEN : Hid (earN L C k x = (bit (bel L k) x && (leadK C (at' L x) && sealN L k x))) := rfl
      have hbd := earI_bd L C k x
      have hgw : g < wr.heap.size := Nat.lt_of_lt_of_le hg HB.out.size
      obtain ⟨_, c0, c1, c2, c3⟩ := (HR.out.below HB.out).on x hxL
      have hrb := Lc.ok_round (Lc.can_ok (Lc.lace_upTo HLC.out x hxL))
      have HT1 := HT.out.below HB.out
      have t1 := HT1.bel k hk
      have t2 := HT1.sl x hxL
      have tl1 := HT1.lb
      have tl2 := HT1.lh
      have hbb := Sg.bel_bd L k (by omega)
      have hsb := Sl.sealS_bd L x L.length hL
      have HHA : Hid (∀ (W : World) (f : Int) (i : Nat) (v : Bool), ((f = bel L k ∧ i = x ∧ v = bit (bel L k) x) ∨ (f = sealS L x L.length ∧ i = k ∧ v = sealN L k x)) → Calls Tryz.prog 36 #[.int .i64 f, .int .i64 (i : Int)] W fun e w' => e = .returned (.bool v) ∧ W = w') := fun W f i v hq => by
        rcases hq with ⟨rfl, rfl, rfl⟩ | ⟨rfl, rfl, rfl⟩
        · exact (Db.has_call _ i _ hbb.1 hbb.2 (by omega) rfl W).mono fun _ _ q => ⟨q.1, q.2.symm⟩
        · exact (Db.has_call _ i _ hsb.1 hsb.2 (by omega) (by rw [Sl.bit_sealS L x _ hL, decide_eq_true hk]; rfl) W).mono fun _ _ q => ⟨q.1, q.2.symm⟩
      have HLD : Hid (∀ W : World, Below wr.heap.size wr W → Calls Tryz.prog 37 #[.slice ao C.length cc, .agg #[.int .i64 (at' L x).hand, .int .i64 (at' L x).round, .int .i64 (at' L x).frm, .string (at' L x).word]] W fun e w' => e = .returned (.bool (leadK C (at' L x))) ∧ Below W.heap.size W w') := fun W hW => by
        have hB := HB.out.trans (hW.mono HB.out.size)
        exact l8Leads ao cc C (at' L x) W hrb.1 (by omega) (HRD.out W hB).1 (HRD.out W hB).2
      clear HT1 hbb hsb
      generalize bel L k = yb at t1 HHA HEN
      generalize sealS L x L.length = ys at t2 HHA
      generalize bit yb x = b1 at HEN HHA
      generalize sealN L k x = b3 at HEN HHA
      have HRO : Hid (∀ e : Nat, e < x → wr.cell? ⟨g, off + e * 4 + 1, none⟩ = some (.int .i64 (at' L e).round)) := fun e he => by obtain ⟨_, _, q, _, _⟩ := (HR.out.below HB.out).on e (by omega); exact q
      generalize hkk : at' L x = kk at c0 c1 c2 c3 HLD HEN HST hrb
      generalize leadK C kk = b2 at HEN HLD
      have HCASE : Hid (earI L C k x = -1 ∨ ∃ e : Nat, earI L C k x = (e : Int) ∧ e < x) := hbd
      generalize earI L C k x = eo at HST HCASE ⊢
      clear hbd hkk
      obtain ⟨X, _, F, HF, HG⟩ := Fam.fam wr
      have d0 : ∀ z, (F z).cell? ⟨g, off + x * 4, none⟩ = some (.int .i64 kk.hand) := fun z => ((HF.out z).cell (p := ⟨g, off + x * 4, none⟩) hgw).trans c0
      have d1 : ∀ z, (F z).cell? ⟨g, off + x * 4 + 1, none⟩ = some (.int .i64 kk.round) := fun z => ((HF.out z).cell (p := ⟨g, off + x * 4 + 1, none⟩) hgw).trans c1
      have d2 : ∀ z, (F z).cell? ⟨g, off + x * 4 + 2, none⟩ = some (.int .i64 kk.frm) := fun z => ((HF.out z).cell (p := ⟨g, off + x * 4 + 2, none⟩) hgw).trans c2
      have d3 : ∀ z, (F z).cell? ⟨g, off + x * 4 + 3, none⟩ = some (.string kk.word) := fun z => ((HF.out z).cell (p := ⟨g, off + x * 4 + 3, none⟩) hgw).trans c3
      have s1 : ∀ z, (F z).cell? ⟨bb, k, none⟩ = some (.int .i64 yb) := fun z => ((HF.out z).cell (p := ⟨bb, k, none⟩) tl1).trans t1
      have s2 : ∀ z, (F z).cell? ⟨h, x, none⟩ = some (.int .i64 ys) := fun z => ((HF.out z).cell (p := ⟨h, x, none⟩) tl2).trans t2
      clear c0 c1 c2 c3 t1 t2
      cases b1
      · have HD : Hid (earI L C k (x + 1) = eo) := by show _ = _; rw [HST.out, HEN.out]; simp
        clear HST HEN HCASE HLD
        go_wp2_with fail
        refine Fam.region (F := F) (by kernel_rfl) (by kernel_rfl) (HG.out _ (Below.refl _ wr).drew) ?_
        repeat (go_big_quiet_step (first
          | (go_at_call 36; exact (HHA.out _ _ _ _ (by first | exact .inl ⟨rfl, rfl, rfl⟩ | exact .inr ⟨rfl, rfl, rfl⟩)).mono fun _ _ q => ⟨q.1, _, q.2.symm⟩)))
        refine wpQuiet_nil ?_
        intro w2 hw2
        obtain ⟨z, rfl⟩ := hw2
        have HB2 : Hid (Below w.heap.size w (F z)) := HB.out.trans ((HF.out z).mono HB.out.size)
        clear HB
        go_wp2
        go_roundw
        case rel => exact ⟨x + 1, by omega, by go_num, by rw [HD.out], HB2⟩
        case measure => simp [intOf]; omega
      · cases b2
        · have HD : Hid (earI L C k (x + 1) = eo) := by show _ = _; rw [HST.out, HEN.out]; simp
          clear HST HEN HCASE
          go_wp2_with fail
          refine Fam.region (F := F) (by kernel_rfl) (by kernel_rfl) (HG.out _ (Below.refl _ wr).drew) ?_
          repeat (go_big_quiet_step (first
            | (go_at_call 36; exact (HHA.out _ _ _ _ (by first | exact .inl ⟨rfl, rfl, rfl⟩ | exact .inr ⟨rfl, rfl, rfl⟩)).mono fun _ _ q => ⟨q.1, _, q.2.symm⟩)
            | (go_at_call 37; exact (HLD.out _ (HF.out _)).mono fun _ _ q => ⟨q.1, HG.out _ ((HF.out _).trans (q.2.mono (HF.out _).size))⟩)))
          refine wpQuiet_nil ?_
          intro w2 hw2
          obtain ⟨z, rfl⟩ := hw2
          have HB2 : Hid (Below w.heap.size w (F z)) := HB.out.trans ((HF.out z).mono HB.out.size)
          clear HB
          go_wp2
          go_roundw
          case rel => exact ⟨x + 1, by omega, by go_num, by rw [HD.out], HB2⟩
          case measure => simp [intOf]; omega
        · cases b3
          · have HD : Hid (earI L C k (x + 1) = eo) := by show _ = _; rw [HST.out, HEN.out]; simp
            clear HST HEN HCASE
            go_wp2_with fail
            refine Fam.region (F := F) (by kernel_rfl) (by kernel_rfl) (HG.out _ (Below.refl _ wr).drew) ?_
            repeat (go_big_quiet_step (first
              | (go_at_call 36; exact (HHA.out _ _ _ _ (by first | exact .inl ⟨rfl, rfl, rfl⟩ | exact .inr ⟨rfl, rfl, rfl⟩)).mono fun _ _ q => ⟨q.1, _, q.2.symm⟩)
              | (go_at_call 37; exact (HLD.out _ (HF.out _)).mono fun _ _ q => ⟨q.1, HG.out _ ((HF.out _).trans (q.2.mono (HF.out _).size))⟩)))
            refine wpQuiet_nil ?_
            intro w2 hw2
            obtain ⟨z, rfl⟩ := hw2
            have HB2 : Hid (Below w.heap.size w (F z)) := HB.out.trans ((HF.out z).mono HB.out.size)
            clear HB
            go_wp2
            go_roundw
            case rel => exact ⟨x + 1, by omega, by go_num, by rw [HD.out], HB2⟩
            case measure => simp [intOf]; omega
          · rcases HCASE.out with e | ⟨e, rfl, hex⟩
            · subst e
              have HD : Hid (earI L C k (x + 1) = (x : Int)) := by show _ = _; rw [HST.out, HEN.out]; simp
              clear HST HEN HCASE
              go_wp2_with fail
              refine Fam.region (F := F) (by kernel_rfl) (by kernel_rfl) (HG.out _ (Below.refl _ wr).drew) ?_
              repeat (go_big_quiet_step (first
                | (go_at_call 36; exact (HHA.out _ _ _ _ (by first | exact .inl ⟨rfl, rfl, rfl⟩ | exact .inr ⟨rfl, rfl, rfl⟩)).mono fun _ _ q => ⟨q.1, _, q.2.symm⟩)
                | (go_at_call 37; exact (HLD.out _ (HF.out _)).mono fun _ _ q => ⟨q.1, HG.out _ ((HF.out _).trans (q.2.mono (HF.out _).size))⟩)))
              refine wpQuiet_nil ?_
              intro w2 hw2
              obtain ⟨z, rfl⟩ := hw2
              have HB2 : Hid (Below w.heap.size w (F z)) := HB.out.trans ((HF.out z).mono HB.out.size)
              clear HB
              go_wp2
              go_roundw
              case rel => exact ⟨x + 1, by omega, by go_num, by rw [HD.out], HB2⟩
              case measure => simp [intOf]; omega
            · have ce := HRO.out e hex
              have d5 : ∀ z, (F z).cell? ⟨g, off + e * 4 + 1, none⟩ = some (.int .i64 (at' L e).round) := fun z => ((HF.out z).cell (p := ⟨g, off + e * 4 + 1, none⟩) hgw).trans ce
              have hei : (e : Int) < (L.length : Int) := by omega
              have he0 : decide ((e : Int) < 0) = false := decide_eq_false (by omega)
              rw [Int.toNat_natCast] at HST
              generalize (at' L e).round = er at HST d5
              clear ce
              by_cases hrr : er < kk.round
              · have HD : Hid (earI L C k (x + 1) = (x : Int)) := by show _ = _; rw [HST.out, HEN.out]; simp [hrr]
                clear HST HEN HCASE HRO
                go_wp2_with fail
                refine Fam.region (F := F) (by kernel_rfl) (by kernel_rfl) (HG.out _ (Below.refl _ wr).drew) ?_
                repeat (go_big_quiet_step (first
                  | (go_at_call 36; exact (HHA.out _ _ _ _ (by first | exact .inl ⟨rfl, rfl, rfl⟩ | exact .inr ⟨rfl, rfl, rfl⟩)).mono fun _ _ q => ⟨q.1, _, q.2.symm⟩)
                  | (go_at_call 37; exact (HLD.out _ (HF.out _)).mono fun _ _ q => ⟨q.1, HG.out _ ((HF.out _).trans (q.2.mono (HF.out _).size))⟩)))
                refine wpQuiet_nil ?_
                intro w2 hw2
                obtain ⟨z, rfl⟩ := hw2
                have HB2 : Hid (Below w.heap.size w (F z)) := HB.out.trans ((HF.out z).mono HB.out.size)
                clear HB
                go_wp2
                go_roundw
                case rel => exact ⟨x + 1, by omega, by go_num, by rw [HD.out], HB2⟩
                case measure => simp [intOf]; omega
              · have HD : Hid (earI L C k (x + 1) = (e : Int)) := by show _ = _; rw [HST.out, HEN.out]; simp; omega
                clear HST HEN HCASE HRO
                go_wp2_with fail
                refine Fam.region (F := F) (by kernel_rfl) (by kernel_rfl) (HG.out _ (Below.refl _ wr).drew) ?_
                repeat (go_big_quiet_step (first
                  | (go_at_call 36; exact (HHA.out _ _ _ _ (by first | exact .inl ⟨rfl, rfl, rfl⟩ | exact .inr ⟨rfl, rfl, rfl⟩)).mono fun _ _ q => ⟨q.1, _, q.2.symm⟩)
                  | (go_at_call 37; exact (HLD.out _ (HF.out _)).mono fun _ _ q => ⟨q.1, HG.out _ ((HF.out _).trans (q.2.mono (HF.out _).size))⟩)))
                refine wpQuiet_nil ?_
                intro w2 hw2
                obtain ⟨z, rfl⟩ := hw2
                have HB2 : Hid (Below w.heap.size w (F z)) := HB.out.trans ((HF.out z).mono HB.out.size)
                clear HB
                go_wp2
                go_roundw
                case rel => exact ⟨x + 1, by omega, by go_num, by rw [HD.out], HB2⟩
                case measure => simp [intOf]; omega
    · obtain rfl : x = k := by omega
      have HE : Hid (earI L C x x = earlierN L C x) := rfl
      rw [HE.out]
      go_wp2
      go_ret
      exact ⟨rfl, HB.out⟩

/-- the chain so far, in memory of the call's own -/
structure ChSt (w wr : World) (v : Value) (l : List Int) : Prop where
  shape : ∃ gg cp, v = .slice (some ⟨gg, 0, none⟩) l.length cp ∧ Memb.Own w.heap.size wr (some ⟨gg, 0, none⟩) cp l
  bel : Below w.heap.size w wr
theorem chSt_start (w : World) : ChSt w (w.alloc (.cells #[] 2)) (.slice (some ⟨w.heap.size, 0, none⟩) 0 0) [] := ⟨⟨_, _, rfl, Memb.own_empty w⟩, (Below.refl _ _).alloc (Nat.le_refl _) _⟩
theorem chSt_put {w wr w3 : World} {v' : Value} {l : List Int} {x : Int} {o : Obj} (hB : Below w.heap.size w wr) (ho : w3.ownsRow w.heap.size 2 1 v' (1 + l.length) ([.int .i64 x] ++ l.map (Value.int .i64))) (hg : (wr.alloc o).grownBy w3 (some wr.heap.size)) (hn : ¬ v' = .slice none 0 0) : ChSt w w3 v' (x :: l) := by
  refine ⟨?_, (hB.alloc hB.size o).grown hg (by simp; have := hB.size; omega) (fun j hj => by cases hj; exact hB.size)⟩
  have ho' : w3.ownsRow w.heap.size 2 1 v' (x :: l).length ((x :: l).map (Value.int .i64)) := by
    rw [show (x :: l).length = 1 + l.length by simp; omega]; exact ho
  obtain ⟨ao, cap, hv, hown⟩ := Memb.own_shape ho'
  rcases ao with _ | a
  · obtain ⟨_, ⟨hx, _⟩ | ⟨gg, cp, cur, hx, _⟩⟩ := ho'
    · exact absurd hx hn
    · rw [hv] at hx; injection hx with hx _; exact absurd hx (by simp)
  · obtain ⟨_, ⟨hx, _⟩ | ⟨gg, cp, cur, hx, _⟩⟩ := ho'
    · exact absurd hx hn
    · rw [hv] at hx
      injection hx with hx _ hc
      injection hx with hx
      subst hx hc
      exact ⟨gg, cap, hv, hown⟩

set_option maxHeartbeats 3200000 in
theorem l10Chain (g off cap : Nat) (L : List K) (ao : Option Addr) (cc : Nat) (C : List Int) (bb bc h hc : Nat) (k : Nat) (w : World) (hl : laceB L = true) (hg : g < w.heap.size) (hr : RdK w (some ⟨g, off, none⟩) L) (hrd : Lst.Rd w ao C) (hao : ∀ c, ao = some ⟨c, 0, none⟩ → c < w.heap.size) (ht : TabsL w L bb h) (hk : k < L.length) :
    Calls Tryz.prog 30 #[.slice (some ⟨g, off, none⟩) L.length cap, .slice ao C.length cc, .slice (some ⟨bb, 0, none⟩) L.length bc, .slice (some ⟨h, 0, none⟩) L.length hc, .int .i64 (k : Int)] w (NumsPost (chainL L C (k : Int)) w) := by
  obtain ⟨i0, hi, hz0, hz1, hz2⟩ := info_parts Memb.info2
  have hL := ((Lc.lace_iff L).1 hl).1
  have HEAR : Hid (∀ (W : World) (p : Nat), Below w.heap.size w W → p < L.length → Calls Tryz.prog 32 #[.slice (some ⟨g, off, none⟩) L.length cap, .slice ao C.length cc, .slice (some ⟨bb, 0, none⟩) L.length bc, .slice (some ⟨h, 0, none⟩) L.length hc, .int .i64 (p : Int)] W fun e w' => e = .returned (.int .i64 (earlierN L C p)) ∧ Below W.heap.size W w') := fun W p hW hp =>
    l10Earlier g off cap L ao cc C bb bc h hc p W hl (Nat.lt_of_lt_of_le hg hW.size) (hr.below hW) (rd_below hrd hao hW) (fun c e => Nat.lt_of_lt_of_le (hao c e) hW.size) (ht.below hW) hp
  have HLEN : Hid (∀ (kc : Int) (l : List Int), chainL L C (k : Int) = chainL L C kc ++ l → l.length ≤ k + 1) := fun kc l e => by
    have h1 := chain_len L C (k : Int)
    rw [e] at h1
    simp at h1
    omega
  clear hl hr hrd hao ht
  go_enter Tryz.func30, Tryz.ntmps30
  go_wp2
  go_loopw [4, 11] (fun kv v wr => ∃ (kc : Int) (l : List Int), kv = .int .i64 kc ∧ (-1 ≤ kc ∧ kc < (L.length : Int)) ∧ Hid (chainL L C (k : Int) = chainL L C kc ++ l) ∧ Hid (ChSt w wr v l)) (fun kv _ _ => (intOf kv + 1).toNat)
  case atStart => exact ⟨(k : Int), [], rfl, by omega, by show _ = _; rw [List.append_nil], chSt_start w⟩
  case round =>
    obtain ⟨kc, l, rfl, hkc, HCH, HS⟩ := hrel
    have hll := HLEN.out kc l HCH.out
    by_cases hn : 0 ≤ kc
    · obtain ⟨p, rfl⟩ := Int.eq_ofNat_of_zero_le hn
      have hp : p < L.length := by omega
      have hlt := earlier_lt L C p
      have hge : -1 ≤ earlierN L C p := by rcases earI_bd L C p p with e | ⟨e, he, _⟩ <;> unfold earlierN <;> omega
      have HCH2 : Hid (chainL L C (k : Int) = chainL L C (earlierN L C p) ++ ((p : Int) :: l)) := by
        show _ = _; rw [HCH.out, chain_step, List.append_assoc]; rfl
      obtain ⟨gg, cp, hv, hown⟩ := HS.out.shape
      subst hv
      have hrd1 := Lst.own_rd hown
      have hgg := (World.ownsRow.lt hown gg rfl).2
      have HLIT : Hid ((wr.alloc (.cells #[.int .i64 (p : Int)] 2)).ownsRow w.heap.size 2 1 (.slice (some ⟨wr.heap.size, 0, none⟩) 1 1) 1 [.int .i64 (p : Int)]) := World.ownsRow_lit wr #[.int .i64 (p : Int)] 1 HS.out.bel.size (by unfold maxLen; omega) rfl
      have HNEW : Hid (∀ (j : Nat) u, (l.map (Value.int .i64))[j]? = some u → (wr.alloc (.cells #[.int .i64 (p : Int)] 2)).cell? ((⟨gg, 0, none⟩ : Addr).add j) = some u) := fun j u hu => by
        rw [List.getElem?_map] at hu
        rcases hj : l[j]? with _ | y
        · rw [hj] at hu; simp at hu
        · rw [hj] at hu
          simp at hu
          subst hu
          have hjl : j < l.length := (List.getElem?_eq_some_iff.1 hj).1
          rcases hrd1 with e | ⟨g2, e, hcell⟩
          · rw [e] at hjl; simp at hjl
          · injection e with e; injection e with e; subst e
            have := hcell j hjl
            rw [show l.getD j 0 = y by simp [List.getD, hj]] at this
            rw [show (⟨gg, 0, none⟩ : Addr).add j = ⟨gg, j, none⟩ by simp [Addr.add]; intro e; exact e.symm, World.cell?_alloc_lt _ _ _ hgg]
            exact this
      have HONE : Hid (∀ u ∈ l.map (Value.int .i64), u.oneCell' = true) := fun u hu => by
        obtain ⟨y, _, rfl⟩ := List.mem_map.1 hu; rfl
      have HBW : Hid (Below w.heap.size w wr) := HS.out.bel
      clear hown hrd1
      go_wp2_with (first | (at_builtin; refine wpList_append_own _ rfl _ _ 25 rfl w.heap.size 2 i0 (.int .i64 0) 1 8 Tryz.underlying25 hi hz0 hz1 hz2 rfl (by decide) (.slice (some ⟨wr.heap.size, 0, none⟩) 1 1) 1 [.int .i64 (p : Int)] (by first | rfl | simp [Act.eval]) HLIT.out ⟨gg, 0, none⟩ l.length cp (l.map (Value.int .i64)) (by first | rfl | simp [Act.eval]) (by simp) HNEW.out HONE.out ?c3 ?c4 ?c5 ?_) | fail)
      case c3 => unfold maxLen; omega
      case c4 => omega
      case c5 => have := HBW.out.size; simp; omega
      intro v' w3 hown' hgrow hnil
      have HS3 : Hid (ChSt w w3 v' ((p : Int) :: l)) := chSt_put HBW.out hown' hgrow hnil
      clear hown' hgrow hnil HS HLIT HNEW HONE HBW
      have hcall := HEAR.out w3 p HS3.out.bel hp
      go_wp2_with fail
      refine hcall.mono ?_
      rintro e w4 ⟨rfl, hb4⟩
      have HS4 : Hid (ChSt w w4 v' ((p : Int) :: l)) := by
        obtain ⟨g4, c4, e4, o4⟩ := HS3.out.shape
        exact ⟨⟨g4, c4, e4, Lst.own_below o4 hb4⟩, HS3.out.bel.trans (hb4.mono HS3.out.bel.size)⟩
      clear hb4 HS3 hcall
      go_wp2
      go_roundw
      case rel => exact ⟨earlierN L C p, (p : Int) :: l, rfl, by omega, HCH2, HS4⟩
      case measure => simp [intOf]; omega
    · have HE : Hid (chainL L C (k : Int) = l) := by show _ = _; rw [HCH.out, chain_neg L C (by omega)]; rfl
      obtain ⟨gg, cp, hv, hown⟩ := HS.out.shape
      have HV : Hid (u11 = .slice (some ⟨gg, 0, none⟩) l.length cp) := hv
      have HF : Hid (Memb.Own w.heap.size wr (some ⟨gg, 0, none⟩) cp l ∧ Below w.heap.size w wr) := ⟨hown, HS.out.bel⟩
      clear hv hown HS HCH
      go_wp2
      go_ret
      exact ⟨some ⟨gg, 0, none⟩, cp, by rw [HE.out, ← HV.out]; rfl, by rw [HE.out]; exact HF.out.1, HF.out.2⟩

/-- the model's two tables of a lace that has a knot -/
theorem tables (g off cap : Nat) (L : List K) (w : World) (hl : laceB L = true) (hN : 0 < L.length) (hr : RdK w (some ⟨g, off, none⟩) L) :
    Calls Tryz.prog 29 #[.slice (some ⟨g, off, none⟩) L.length cap] w fun e w' => ∃ bb bc, e = .returned (.slice (some ⟨bb, 0, none⟩) L.length bc) ∧ Below w.heap.size w w' ∧
      Calls Tryz.prog 31 #[.slice (some ⟨g, off, none⟩) L.length cap, .slice (some ⟨bb, 0, none⟩) L.length bc] w' fun e2 w2 => ∃ h, e2 = .returned (.slice (some ⟨h, 0, none⟩) L.length L.length) ∧ TabsL w2 L bb h ∧ Below w'.heap.size w' w2 := by
  have h60 := ((Lc.lace_iff L).1 hl).1
  refine (Sg.l4All (some ⟨g, off, none⟩) cap L w h60 (Sg.frm_lace hl) hr).mono ?_
  rintro e w1 ⟨bo, bc, rfl, hown, hb1⟩
  have hbl := Sg.belows_len L L.length
  have hrd := Lst.own_rd hown
  rcases hrd with e | ⟨bb, e, hcell⟩
  · rw [e] at hbl; simp at hbl; omega
  · subst e
    have hlt := (World.ownsRow.lt hown bb rfl).2
    refine ⟨bb, bc, by rw [hbl], hb1, ?_⟩
    refine (Sl.l7All g off cap L (some ⟨bb, 0, none⟩) bc w1 hl (hr.below hb1) (Lst.own_rd hown) (fun g' e => by injection e with e; injection e with e; subst e; exact hlt)).mono ?_
    rintro e w2 ⟨h, O, rfl, _, hrow, hO, hb2⟩
    refine ⟨h, rfl, ⟨fun i hi => ?_, fun i hi => by rw [← hO i hi]; exact hrow.rd i hi, Nat.lt_of_lt_of_le hlt hb2.size, hrow.lt⟩, hb2⟩
    rw [(hb2.cell (p := ⟨bb, i, none⟩) hlt)]
    have := hcell i (by rw [hbl]; exact hi)
    rwa [Sg.belows_get L L.length i hi] at this

/-- a knot, and coins -/
def onB (L : List K) (C : List Int) (k : Int) : Bool := isB L k && coinsB C
/-- the document's Earlier -/
def earlierI (L : List K) (C : List Int) (k : Int) : Int := if onB L C k then earlierN L C k.toNat else -1
/-- the document's ChainOf -/
def chainI (L : List K) (C : List Int) (k : Int) : List Int := if onB L C k then chainL L C k else []

set_option maxHeartbeats 800000 in
theorem l10Right (g off cap : Nat) (L : List K) (ao : Option Addr) (cc : Nat) (C : List Int) (k : Int) (w : World) (hcap : L.length ≤ cap) (hw : WordsOk L) (hr : RdK w (some ⟨g, off, none⟩) L) (hC : C.length ≤ 1048576) (hrd : Lst.Rd w ao C) (hao : ∀ c, ao = some ⟨c, 0, none⟩ → c < w.heap.size) :
    Calls Tryz.prog 28 #[.slice (some ⟨g, off, none⟩) L.length cap, .slice ao C.length cc, .int .i64 k] w fun e w' => e = .returned (.bool (onB L C k)) ∧ Below w.heap.size w w' := by
  go_enter Tryz.func28, Tryz.ntmps28
  go_wp2_with fail
  refine (Sg.l4Is g off cap L k _ hcap hw hr).mono ?_
  rintro e w1 ⟨rfl, hb1⟩
  have hcall := Rm.specCoinsOk ao cc C w1 hC (rd_below hrd hao hb1)
  have HT : Hid (onB L C k = (isB L k && coinsB C)) := rfl
  clear hrd hao hr
  generalize isB L k = b1 at HT ⊢
  generalize coinsB C = b2 at HT hcall
  cases b1
  · clear hcall
    go_wp2
    go_ret
    exact ⟨by rw [HT.out]; rfl, hb1⟩
  · go_wp2_with (go_at_call 15; refine hcall.mono ?_; rintro e w' ⟨rfl, rfl⟩)
    go_ret
    exact ⟨by rw [HT.out]; rfl, hb1⟩

set_option maxHeartbeats 1600000 in
theorem specEarlier (g off cap : Nat) (L : List K) (ao : Option Addr) (cc : Nat) (C : List Int) (k : Int) (w : World) (hcap : L.length ≤ cap) (hw : WordsOk L) (hg : g < w.heap.size) (hr : RdK w (some ⟨g, off, none⟩) L) (hC : C.length ≤ 1048576) (hrd : Lst.Rd w ao C) (hao : ∀ c, ao = some ⟨c, 0, none⟩ → c < w.heap.size) :
    Calls Tryz.prog 11 #[.slice (some ⟨g, off, none⟩) L.length cap, .slice ao C.length cc, .int .i64 k] w fun e w' => e = .returned (.int .i64 (earlierI L C k)) ∧ Below w.heap.size w w' := by
  have HRD : Hid (∀ W : World, Below w.heap.size w W → Lst.Rd W ao C ∧ ∀ c, ao = some ⟨c, 0, none⟩ → c < W.heap.size) := fun W hW => ⟨rd_below hrd hao hW, fun c e => Nat.lt_of_lt_of_le (hao c e) hW.size⟩
  have hcall := l10Right g off cap L ao cc C k w hcap hw hr hC hrd hao
  have HR : Hid (RdK w (some ⟨g, off, none⟩) L) := hr
  clear hrd hao hr
  go_enter Tryz.func11, Tryz.ntmps11
  go_wp2_with fail
  refine hcall.mono ?_
  rintro e w1 ⟨rfl, hb1⟩
  clear hcall
  cases hq : onB L C k
  · have HT : Hid (earlierI L C k = -1) := by show _ = _; unfold earlierI; rw [hq]; rfl
    clear hq
    go_wp2
    go_ret
    exact ⟨by rw [HT.out]; rfl, hb1⟩
  · have HT : Hid (earlierI L C k = earlierN L C k.toNat) := by show _ = _; unfold earlierI; rw [hq]; rfl
    unfold onB at hq
    rw [Bool.and_eq_true] at hq
    obtain ⟨k0, k1, hlc⟩ := Sg.isB_parts hq.1
    have HLC : Hid (laceB L = true) := hlc
    clear hq hlc
    obtain ⟨p, rfl⟩ := Int.eq_ofNat_of_zero_le k0
    have hp : p < L.length := by omega
    rw [Int.toNat_natCast] at HT
    go_wp2_with fail
    refine (tables g off cap L _ HLC.out (by omega) (HR.out.below hb1)).mono ?_
    rintro e w2 ⟨bb, bc, rfl, hb2, h7⟩
    have hB2 := hb1.trans (hb2.mono hb1.size)
    clear hb1 hb2
    go_wp2_with fail
    refine h7.mono ?_
    rintro e w3 ⟨h, rfl, hT, hb3⟩
    have hB3 := hB2.trans (hb3.mono hB2.size)
    have hE := l10Earlier g off cap L ao cc C bb bc h L.length p w3 HLC.out (Nat.lt_of_lt_of_le hg hB3.size) (HR.out.below hB3) (HRD.out w3 hB3).1 (HRD.out w3 hB3).2 hT hp
    clear hb3 hB2 h7 hT
    go_wp2_with fail
    refine hE.mono ?_
    rintro e w4 ⟨rfl, hb4⟩
    have hB4 := hB3.trans (hb4.mono hB3.size)
    clear hE hb4 hB3
    go_wp2
    go_ret
    exact ⟨by rw [HT.out]; rfl, hB4⟩

theorem own_base {B B' : Nat} {w : World} {ao : Option Addr} {cap : Nat} {l : List Int} (h : Memb.Own B w ao cap l) (hb : B' ≤ B) : Memb.Own B' w ao cap l := by
  obtain ⟨a1, a2⟩ := h
  refine ⟨a1, ?_⟩
  rcases a2 with a2 | ⟨g2, c2, cur, e1, e2, rest⟩
  · exact .inl a2
  · exact .inr ⟨g2, c2, cur, e1, Nat.le_trans hb e2, rest⟩
/-- an empty list of the call's own -/
theorem nums_nil {w w1 : World} (hb1 : Below w.heap.size w w1) : Memb.Own w.heap.size (w1.alloc (.cells #[] 2)) (some ⟨w1.heap.size, 0, none⟩) 0 [] ∧ Below w.heap.size w (w1.alloc (.cells #[] 2)) := ⟨own_base (Memb.own_empty w1) hb1.size, hb1.alloc hb1.size _⟩

set_option maxHeartbeats 1600000 in
theorem specChainOf (g off cap : Nat) (L : List K) (ao : Option Addr) (cc : Nat) (C : List Int) (k : Int) (w : World) (hcap : L.length ≤ cap) (hw : WordsOk L) (hg : g < w.heap.size) (hr : RdK w (some ⟨g, off, none⟩) L) (hC : C.length ≤ 1048576) (hrd : Lst.Rd w ao C) (hao : ∀ c, ao = some ⟨c, 0, none⟩ → c < w.heap.size) :
    Calls Tryz.prog 10 #[.slice (some ⟨g, off, none⟩) L.length cap, .slice ao C.length cc, .int .i64 k] w (NumsPost (chainI L C k) w) := by
  have HRD : Hid (∀ W : World, Below w.heap.size w W → Lst.Rd W ao C ∧ ∀ c, ao = some ⟨c, 0, none⟩ → c < W.heap.size) := fun W hW => ⟨rd_below hrd hao hW, fun c e => Nat.lt_of_lt_of_le (hao c e) hW.size⟩
  have hcall := l10Right g off cap L ao cc C k w hcap hw hr hC hrd hao
  have HR : Hid (RdK w (some ⟨g, off, none⟩) L) := hr
  clear hrd hao hr
  go_enter Tryz.func10, Tryz.ntmps10
  go_wp2_with fail
  refine hcall.mono ?_
  rintro e w1 ⟨rfl, hb1⟩
  clear hcall
  cases hq : onB L C k
  · have HT : Hid (chainI L C k = []) := by show _ = _; unfold chainI; rw [hq]; rfl
    have HP : Hid _ := nums_nil hb1
    clear hq
    go_wp2
    go_ret
    rw [HT.out]
    exact ⟨some ⟨w1.heap.size, 0, none⟩, 0, rfl, HP.out.1, HP.out.2⟩
  · have HT : Hid (chainI L C k = chainL L C k) := by show _ = _; unfold chainI; rw [hq]; rfl
    unfold onB at hq
    rw [Bool.and_eq_true] at hq
    obtain ⟨k0, k1, hlc⟩ := Sg.isB_parts hq.1
    have HLC : Hid (laceB L = true) := hlc
    clear hq hlc
    obtain ⟨p, rfl⟩ := Int.eq_ofNat_of_zero_le k0
    have hp : p < L.length := by omega
    go_wp2_with fail
    refine (tables g off cap L _ HLC.out (by omega) (HR.out.below hb1)).mono ?_
    rintro e w2 ⟨bb, bc, rfl, hb2, h7⟩
    have hB2 := hb1.trans (hb2.mono hb1.size)
    clear hb1 hb2
    go_wp2_with fail
    refine h7.mono ?_
    rintro e w3 ⟨h, rfl, hT, hb3⟩
    have hB3 := hB2.trans (hb3.mono hB2.size)
    have hE := l10Chain g off cap L ao cc C bb bc h L.length p w3 HLC.out (Nat.lt_of_lt_of_le hg hB3.size) (HR.out.below hB3) (HRD.out w3 hB3).1 (HRD.out w3 hB3).2 hT hp
    clear hb3 hB2 h7 hT
    go_wp2_with fail
    refine hE.mono ?_
    rintro e w4 ⟨ro, rc, rfl, hown, hb4⟩
    have HP : Hid (Memb.Own w.heap.size w4 ro rc (chainL L C (p : Int)) ∧ Below w.heap.size w w4) := ⟨own_base hown hB3.size, hB3.trans (hb4.mono hB3.size)⟩
    clear hE hb4 hB3 hown
    go_wp2
    go_ret
    rw [HT.out]
    exact ⟨ro, rc, rfl, HP.out.1, HP.out.2⟩

/-- the document's OnChain -/
def onChainB (L : List K) (C : List Int) (k x : Int) : Bool := (chainI L C k).contains x
theorem chainI_len {L : List K} {C : List Int} {k : Int} : (chainI L C k).length ≤ 61 := by
  unfold chainI
  split
  · rename_i h
    unfold onB at h
    rw [Bool.and_eq_true] at h
    obtain ⟨k0, k1, hlc⟩ := Sg.isB_parts h.1
    have h60 := ((Lc.lace_iff L).1 hlc).1
    have := chain_len L C k
    omega
  · simp

set_option maxHeartbeats 1600000 in
theorem specOnChain (g off cap : Nat) (L : List K) (ao : Option Addr) (cc : Nat) (C : List Int) (k x : Int) (w : World) (hcap : L.length ≤ cap) (hw : WordsOk L) (hg : g < w.heap.size) (hr : RdK w (some ⟨g, off, none⟩) L) (hC : C.length ≤ 1048576) (hrd : Lst.Rd w ao C) (hao : ∀ c, ao = some ⟨c, 0, none⟩ → c < w.heap.size) :
    Calls Tryz.prog 13 #[.slice (some ⟨g, off, none⟩) L.length cap, .slice ao C.length cc, .int .i64 k, .int .i64 x] w fun e w' => e = .returned (.bool (onChainB L C k x)) ∧ Below w.heap.size w w' := by
  have hcall := specChainOf g off cap L ao cc C k w hcap hw hg hr hC hrd hao
  have HT : Hid (onChainB L C k x = (chainI L C k).contains x) := rfl
  have hfl := chainI_len (L := L) (C := C) (k := k)
  clear hrd hao hr
  go_enter Tryz.func13, Tryz.ntmps13
  go_wp2_with fail
  refine hcall.mono ?_
  rintro e w1 ⟨fo, fc, rfl, hown, hb1⟩
  have hrd1 := Lst.own_rd hown
  clear hown hcall
  generalize chainI L C k = l at HT hfl hrd1 ⊢
  go_wp2
  go_loop [10] (fun i => ∃ j : Nat, j ≤ l.length ∧ i = .int .i64 j ∧ Hid ((l.take j).contains x = false)) (fun i => l.length - (intOf i).toNat)
  case atStart => exact ⟨0, by omega, rfl, rfl⟩
  case round =>
    obtain ⟨j, hj, rfl, HN⟩ := hrel
    by_cases hlt : j < l.length
    · have hji : (j : Int) < (l.length : Int) := by omega
      have HS : Hid ((l.take (j + 1)).contains x = ((l.take j).contains x || (l.getD j 0 == x))) := Fm.has_step l x j hlt
      have HY : Hid ((l.getD j 0 == x) = true → l.contains x = true) := fun q => by
        have e : l.getD j 0 = x := by simpa using q
        rw [← e]
        simp [List.getD, List.getElem?_eq_getElem hlt]
      rcases hrd1 with hrd1 | ⟨bb, rfl, hcell⟩
      · rw [hrd1] at hlt; simp at hlt
      have cj := hcell j hlt
      clear hcell
      generalize l.getD j 0 = y at HS cj HY
      cases hq : (y == x)
      · have HN2 : Hid ((l.take (j + 1)).contains x = false) := by show _ = _; rw [HS.out, HN.out, hq]; rfl
        clear HS HY HN
        go_wp2
        go_round
        case rel => exact ⟨j + 1, by omega, by go_num, HN2⟩
        case measure => simp [intOf]; omega
      · have HT2 : Hid (onChainB L C k x = true) := by show _ = _; rw [HT.out]; exact HY.out hq
        clear HS HY HN HT
        go_wp2
        go_ret
        exact ⟨by rw [HT2.out]; rfl, hb1⟩
    · obtain rfl : j = l.length := by omega
      have HT2 : Hid (onChainB L C k x = false) := by show _ = _; rw [HT.out]; have := HN.out; rwa [List.take_length] at this
      clear HN HT
      go_wp2
      go_ret
      exact ⟨by rw [HT2.out]; rfl, hb1⟩

end Ch
end Go.Proofs.YthdjfmndakeaiaaGreat

namespace Go.Proofs.YthdjfmndakeaiaaGreat
open Go.RowKit
set_option maxRecDepth 100000
namespace Rm
open Kn (K okK)
open Bit (bit memTo)
open Lc (at' RdK laceB flat OwnK cellsOf)
open Cur (At)

theorem l1CopyD (v : Value) (w : World) (h : CoinsAt w v) : Calls Tryz.prog 59 #[v] w fun e w' => ∃ ao cc C, e = .returned (.slice ao C.length cc) ∧ C.length ≤ 7 ∧ Memb.Own w.heap.size w' ao cc C ∧ Below w.heap.size w w' := by
  obtain ⟨ao, cap, l, rfl, h1, h2, h3, hrd⟩ := h
  cases ao with
  | none =>
    obtain ⟨rfl, rfl⟩ := h1 rfl
    refine (l1CopyN w).mono ?_
    rintro e w' ⟨bo, bc, rfl, ho, hb⟩
    exact ⟨bo, bc, [], rfl, by simp, ho, hb⟩
  | some x =>
    obtain ⟨g, rfl, hg⟩ := h2 x rfl
    refine (l1Copy g cap l w (by omega) hg hrd).mono ?_
    rintro e w' ⟨bo, bc, rfl, ho, hb⟩
    exact ⟨bo, bc, l, rfl, by omega, ho, hb⟩

/-- a list and coins, drawn so far -/
structure LcSt (c : Nat) (a : Option Addr) (len cap : Nat) (w wr : World) (v : Value) (L : List K) (ao : Option Addr) (cc : Nat) (C : List Int) : Prop where
  at' : At c a len cap wr
  gr : w.grownBy wr (some c)
  lo : OwnK 37 w.heap.size wr v L
  l61 : L.length ≤ 61
  wd : ∀ k ∈ L, k.word.size ≤ 13
  co : Memb.Own w.heap.size wr ao cc C
  c7 : C.length ≤ 7
theorem LcSt.grown {c : Nat} {a : Option Addr} {len cap : Nat} {w wr w1 : World} {v : Value} {L : List K} {ao : Option Addr} {cc : Nat} {C : List Int} (s : LcSt c a len cap w wr v L ao cc C) (hc : c < w.heap.size) (hA : At c a len cap w1) (hG : wr.grownBy w1 (some c)) : LcSt c a len cap w w1 v L ao cc C :=
  ⟨hA, Cur.grownBy_trans s.gr hG, ownK_grown s.lo hG hc, s.l61, s.wd, Draw.own_grown s.co hG hc, s.c7⟩
theorem LcSt.below {c : Nat} {a : Option Addr} {len cap : Nat} {w wr w1 : World} {v : Value} {L : List K} {ao : Option Addr} {cc : Nat} {C : List Int} (s : LcSt c a len cap w wr v L ao cc C) (hb : Below wr.heap.size wr w1) : LcSt c a len cap w w1 v L ao cc C :=
  ⟨s.at'.below hb, Cur.grownBy_trans s.gr ⟨hb.os, hb.tape, hb.output, hb.size, fun i hi _ => hb.block i hi⟩, Lc.ownK_below s.lo hb, s.l61, s.wd, Lst.own_below s.co hb, s.c7⟩

/-- how the drawing of a list and coins ends -/
def LcPost (c : Nat) (a : Option Addr) (len cap : Nat) (w : World) (e : Ending) (w' : World) : Prop := ∃ v L ao cc C, e = .returned (.tuple #[v, .slice ao C.length cc]) ∧ LcSt c a len cap w w' v L ao cc C

set_option maxHeartbeats 3200000 in
theorem l9Draw (HD : DrawsRoom) (HDC : DrawsRoomC) (c : Nat) (a : Option Addr) (len cap : Nat) (w : World) (hl : len ≤ 4096) (hc : At c a len cap w) :
    Calls Tryz.prog 38 #[.pointer (some ⟨c, 0, none⟩)] w (LcPost c a len cap w) := by
  have hcw : c < w.heap.size := hc.lt
  have HDD : Hid DrawsRoom := HD
  have HDX : Hid DrawsRoomC := HDC
  clear HD HDC
  go_enter Tryz.func38, Tryz.ntmps38
  go_wp2_with fail
  refine (HDX.out c a len cap _ hl hc).mono ?_
  rintro e w1 ⟨R, rfl, hP, hA1, hF1, hCo1, hCB1⟩
  obtain ⟨ro, cp, hlv, ho, hz, _, hrd, _⟩ := own_lace hP.own
  have h60 := ((Lc.lace_iff R.L).1 hP.lace).1
  have HWD : Hid (∀ k ∈ R.L, k.word.size ≤ 13) := word_lace hP.lace
  obtain ⟨co, n, cc, hcv⟩ : ∃ co n cc, R.cv = .slice co n cc := by obtain ⟨co, cc, l, e, _⟩ := hCo1; exact ⟨co, l.length, cc, e⟩
  have HV : Hid (roV R = .agg #[.slice ro R.L.length cp, .slice co n cc, .slice (some ⟨R.gh, 0, none⟩) 4 R.hc, .int .i64 R.bad]) := by show _ = _; unfold roV; rw [hlv, hcv]
  rw [HV.out]
  have HG1 : Hid (w.grownBy w1 (some c)) := hF1.grown
  have HP2 : Hid (Q4 (w1.alloc (.cells #[.slice ro R.L.length cp, .slice co n cc, .slice (some ⟨R.gh, 0, none⟩) 4 R.hc, .int .i64 R.bad] 90)) w1.heap.size (.slice ro R.L.length cp) (.slice co n cc) (.slice (some ⟨R.gh, 0, none⟩) 4 R.hc) (.int .i64 R.bad) ∧ Below w1.heap.size w1 (w1.alloc (.cells #[.slice ro R.L.length cp, .slice co n cc, .slice (some ⟨R.gh, 0, none⟩) 4 R.hc, .int .i64 R.bad] 90))) := ⟨q4_new _ _ _ _ _ _, (Below.refl _ _).alloc (Nat.le_refl _) _⟩
  rw [hcv] at hCo1
  go_upto_region 2 with fail
  generalize w1.alloc (.cells #[.slice ro R.L.length cp, .slice co n cc, .slice (some ⟨R.gh, 0, none⟩) 4 R.hc, .int .i64 R.bad] 90) = V at HP2 ⊢
  have hbV : Below w1.heap.size w1 V := HP2.out.2
  obtain ⟨ro2, cp2, hlv2, ho2, hz2, _, hrd2, _⟩ := own_lace (Fm.row_below hP.own hbV)
  obtain ⟨hq1, hq2⟩ : ro2 = ro ∧ cp2 = cp := by
    rw [hlv] at hlv2
    injection hlv2 with e1 _ e3
    exact ⟨e1.symm, e3.symm⟩
  subst hq1 hq2
  have hCoV := coinsAt_below hCo1 hbV
  have hAV : At c a len cap V := hA1.below hbV
  have HGV : Hid (w.grownBy V (some c)) := Cur.grownBy_trans HG1.out ⟨hbV.os, hbV.tape, hbV.output, hbV.size, fun i hi _ => hbV.block i hi⟩
  obtain ⟨hQl, q0, q1, _, _, _, _, _, _⟩ := HP2.out.1
  have hcopy := l3CopyO ro2 cp2 R.L V ho2 hz2 (by omega) hrd2
  generalize w1.heap.size = rb at hQl q0 q1 ⊢
  clear hP hlv hlv2 hCo1 hA1 hF1 hCB1 ho hz hrd ho2 hz2 hrd2 HV HP2 HG1 hbV hcv
  go_wp2_with fail
  refine hcopy.mono ?_
  rintro e w2 ⟨v, rfl, hO2, hb2⟩
  have q1' := (hb2.cell (p := ⟨rb, 1, none⟩) hQl).trans q1
  have hcopyC := l1CopyD (.slice co n cc) w2 (coinsAt_below hCoV hb2)
  have hA2 : At c a len cap w2 := hAV.below hb2
  have HG2 : Hid (w.grownBy w2 (some c)) := Cur.grownBy_trans HGV.out ⟨hb2.os, hb2.tape, hb2.output, hb2.size, fun i hi _ => hb2.block i hi⟩
  have HO2 : Hid (OwnK 37 w.heap.size w2 v R.L) := ownK_base hO2 HGV.out.size
  clear hO2 hb2 hCoV hAV HGV hcopy q0 q1
  go_wp2_with fail
  refine hcopyC.mono ?_
  rintro e w3 ⟨ao, ac, C, rfl, hC7, hCO, hb3⟩
  have HS3 : Hid (LcSt c a len cap w w3 v R.L ao ac C) := ⟨hA2.below hb3, Cur.grownBy_trans HG2.out ⟨hb3.os, hb3.tape, hb3.output, hb3.size, fun i hi _ => hb3.block i hi⟩, Lc.ownK_below HO2.out hb3, by omega, HWD.out, Ch.own_base hCO HG2.out.size, hC7⟩
  clear hcopyC hCO hb3 hA2 HG2 HO2 q1' hQl
  generalize R.L = L0 at HS3 HWD
  clear HWD
  go_wp2_with fail
  refine (Cur.once c a len cap 6 _ hl (by omega) HS3.out.at').mono ?_
  rintro e w4 ⟨b4, rfl, hA4, hG4⟩
  have HS4 : Hid (LcSt c a len cap w w4 v L0 ao ac C) := HS3.out.grown hcw hA4 hG4
  clear hA4 hG4 HS3
  go_upto_if 16 with fail
  go_cut [6] (fun cv wx => ∃ ao' ac' C', cv = .slice ao' (C' : List Int).length ac' ∧ Hid (LcSt c a len cap w wx v L0 ao' ac' C'))
  case first =>
    cases b4
    · go_wp2_with fail
      go_meet
      exact ⟨ao, ac, C, rfl, HS4⟩
    · go_wp2_with fail
      refine (l8Draw c a len cap _ hl HS4.out.at').mono ?_
      rintro e w5 ⟨g5, c5, C5, rfl, hC5, hO5, hA5, hG5⟩
      have HS5 : Hid (LcSt c a len cap w w5 v L0 (some ⟨g5, 0, none⟩) c5 C5) := ⟨hA5, Cur.grownBy_trans HS4.out.gr hG5, ownK_grown HS4.out.lo hG5 hcw, HS4.out.l61, HS4.out.wd, Ch.own_base hO5 HS4.out.gr.size, hC5⟩
      clear hO5 hA5 hG5 HS4
      go_wp2_with fail
      go_meet
      exact ⟨some ⟨g5, 0, none⟩, c5, C5, rfl, HS5⟩
  case rest =>
    obtain ⟨ao6, c6, C6, rfl, HS6⟩ := hcut
    clear HS4
    go_wp2_with fail
    refine (Cur.once c a len cap 10 _ hl (by omega) HS6.out.at').mono ?_
    rintro e w7 ⟨b7, rfl, hA7, hG7⟩
    have HS7 : Hid (LcSt c a len cap w w7 v L0 ao6 c6 C6) := HS6.out.grown hcw hA7 hG7
    clear hA7 hG7 HS6
    cases b7
    · go_wp2
      refine bodyPost_ret (v := .tuple #[v, .slice ao6 C6.length c6]) (by simp [results, Tryz.f38, go_sem]) rfl ?_
      exact ⟨v, L0, ao6, c6, C6, rfl, HS7.out⟩
    · go_wp2_with fail
      refine (l3DrawAny HDD.out c a len cap _ hl HS7.out.at').mono ?_
      rintro e w8 ⟨v8, L8, rfl, hO8, h61, hwd8, hA8, hG8⟩
      have HS8 : Hid (LcSt c a len cap w w8 v8 L8 ao6 c6 C6) := ⟨hA8, Cur.grownBy_trans HS7.out.gr hG8, ownK_base hO8 HS7.out.gr.size, h61, hwd8, Draw.own_grown HS7.out.co hG8 hcw, HS7.out.c7⟩
      clear hO8 hA8 hG8 hwd8 HS7
      go_wp2
      refine bodyPost_ret (v := .tuple #[v8, .slice ao6 C6.length c6]) (by simp [results, Tryz.f38, go_sem]) rfl ?_
      exact ⟨v8, L8, ao6, c6, C6, rfl, HS8.out⟩

/-- a list and coins that a drawing handed back -/
structure DrawnC (w w' : World) (v : Value) (L : List K) (ao : Option Addr) (cc : Nat) (C : List Int) : Prop where
  dr : Drawn w.heap.size w w' v L
  co : Memb.Own w.heap.size w' ao cc C
  c7 : C.length ≤ 7
theorem drawnC_of {a : Option Addr} {len cap : Nat} {w w1 w' : World} {v : Value} {L : List K} {ao : Option Addr} {cc : Nat} {C : List Int} (hb1 : Below w.heap.size w w1) (s : LcSt w.heap.size a len cap w1 w' v L ao cc C) : DrawnC w w' v L ao cc C :=
  ⟨⟨ownK_base s.lo hb1.size, s.l61, s.wd, Draw.below_of_grown hb1 (Nat.le_refl _) s.gr⟩, Ch.own_base s.co hb1.size, s.c7⟩

theorem own_at {B : Nat} {w : World} {ao : Option Addr} {cap : Nat} {l : List Int} (h : Memb.Own B w ao cap l) : ∀ c, ao = some ⟨c, 0, none⟩ → c < w.heap.size := fun c e => by subst e; exact (World.ownsRow.lt h c rfl).2

theorem ownK_at {B : Nat} {w : World} {g cp : Nat} {L : List K} (h : OwnK 37 B w (.slice (some ⟨g, 0, none⟩) L.length cp) L) : g < w.heap.size ∧ RdK w (some ⟨g, 0, none⟩) L := by
  obtain ⟨g', cp', e, _, _, _, hlt, hrd, _⟩ := Lc.ownK_shape h
  injection e with e _ _
  injection e with e
  injection e with e
  subst e
  exact ⟨hlt, hrd⟩

set_option maxHeartbeats 3200000 in
theorem drawEarlier (HD : DrawsRoom) (HDC : DrawsRoomC) (a : Option Addr) (len cap : Nat) (w : World) (hl : len ≤ 4096) (hc : Cur.Code w a len) :
    Calls Tryz.prog 18 #[.slice a len cap] w fun e w' => ∃ v L ao cc C k, e = .returned (.tuple #[v, .slice ao (C : List Int).length cc, .int .i64 k]) ∧ DrawnC w w' v L ao cc C ∧ (-9223372036854775808 ≤ k ∧ k ≤ 9223372036854775807) := by
  have HDD : Hid DrawsRoom := HD
  have HDX : Hid DrawsRoomC := HDC
  clear HD HDC
  go_enter Tryz.func18, Tryz.ntmps18
  go_wp2_with fail
  refine (Cur.new a len cap _ hl hc).mono ?_
  rintro e w1 ⟨rfl, hA1, hb1⟩
  have hlt1 := hA1.lt
  have HB1 : Hid (Below w.heap.size w w1) := hb1
  clear hb1
  go_wp2_with fail
  refine (l9Draw HDD.out HDX.out _ a len cap _ hl hA1).mono ?_
  rintro e w2 ⟨v, L, ao, cc, C, rfl, hS2⟩
  obtain ⟨g, cp, rfl, _, _, _, _, _, _⟩ := Lc.ownK_shape hS2.lo
  have h61 := hS2.l61
  have HS2 : Hid (LcSt w.heap.size a len cap w1 w2 (.slice (some ⟨g, 0, none⟩) L.length cp) L ao cc C) := hS2
  clear hS2 hA1
  by_cases h4 : 4 < L.length
  · have h4i : (4 : Int) < (L.length : Int) := by omega
    go_wp2_with fail
    refine (Cur.once w.heap.size a len cap 2 _ hl (by omega) HS2.out.at').mono ?_
    rintro e w3 ⟨b, rfl, hA3, hG3⟩
    have HS3 : Hid (LcSt w.heap.size a len cap w1 w3 (.slice (some ⟨g, 0, none⟩) L.length cp) L ao cc C) := HS2.out.grown hlt1 hA3 hG3
    clear hA3 hG3 HS2
    cases b
    · go_wp2_with fail
      refine (l3DrawAt _ a len cap L.length _ hl h61 HS3.out.at').mono ?_
      rintro e w7 ⟨r, rfl, hr, hA7, hG7⟩
      have HF : Hid (DrawnC w w7 (.slice (some ⟨g, 0, none⟩) L.length cp) L ao cc C) := drawnC_of HB1.out (HS3.out.grown hlt1 hA7 hG7)
      clear HS3 hA7 hG7
      go_wp2
      refine bodyPost_ret (v := .tuple #[.slice (some ⟨g, 0, none⟩) L.length cp, .slice ao C.length cc, .int .i64 r]) (by simp [results, Tryz.f18, go_sem]) rfl ?_
      exact ⟨_, L, ao, cc, C, r, rfl, HF.out, hr⟩
    · go_wp2_with fail
      refine (Cur.below w.heap.size a len cap 4 _ hl (by omega) HS3.out.at').mono ?_
      rintro e w7 ⟨x, rfl, hx0, hx1, hA7, hG7⟩
      have hx2 := hx1 (by omega)
      have HF : Hid (DrawnC w w7 (.slice (some ⟨g, 0, none⟩) L.length cp) L ao cc C) := drawnC_of HB1.out (HS3.out.grown hlt1 hA7 hG7)
      have e1 : IntKind.i64.wrap ((L.length : Int) - 1) = (L.length : Int) - 1 := by rw [IntKind.wrap_i64]; omega
      have e2 : IntKind.i64.wrap ((L.length : Int) - 1 - x) = (L.length : Int) - 1 - x := by rw [IntKind.wrap_i64]; omega
      clear HS3 hA7 hG7 hx1
      go_wp2
      refine bodyPost_ret (v := .tuple #[.slice (some ⟨g, 0, none⟩) L.length cp, .slice ao C.length cc, .int .i64 ((L.length : Int) - 1 - x)]) (by simp [results, Tryz.f18, go_sem]) rfl ?_
      exact ⟨_, L, ao, cc, C, _, rfl, HF.out, by omega⟩
  · have h4i : ¬ (4 : Int) < (L.length : Int) := by omega
    go_wp2_with fail
    refine (l3DrawAt _ a len cap L.length _ hl h61 HS2.out.at').mono ?_
    rintro e w7 ⟨r, rfl, hr, hA7, hG7⟩
    have HF : Hid (DrawnC w w7 (.slice (some ⟨g, 0, none⟩) L.length cp) L ao cc C) := drawnC_of HB1.out (HS2.out.grown hlt1 hA7 hG7)
    clear HS2 hA7 hG7
    go_wp2
    refine bodyPost_ret (v := .tuple #[.slice (some ⟨g, 0, none⟩) L.length cp, .slice ao C.length cc, .int .i64 r]) (by simp [results, Tryz.f18, go_sem]) rfl ?_
    exact ⟨_, L, ao, cc, C, r, rfl, HF.out, hr⟩

set_option maxHeartbeats 800000 in
theorem drawChainOf (HD : DrawsRoom) (HDC : DrawsRoomC) (a : Option Addr) (len cap : Nat) (w : World) (hl : len ≤ 4096) (hc : Cur.Code w a len) :
    Calls Tryz.prog 5 #[.slice a len cap] w fun e w' => ∃ v L ao cc C k, e = .returned (.tuple #[v, .slice ao (C : List Int).length cc, .int .i64 k]) ∧ DrawnC w w' v L ao cc C ∧ (-9223372036854775808 ≤ k ∧ k ≤ 9223372036854775807) := by
  go_enter Tryz.func5, Tryz.ntmps5
  go_wp2_with fail
  refine (drawEarlier HD HDC a len cap _ hl hc).mono ?_
  rintro e w1 ⟨v, L, ao, cc, C, k, rfl, hD, hk⟩
  go_wp2
  refine bodyPost_ret (v := .tuple #[v, .slice ao C.length cc, .int .i64 k]) (by simp [results, Tryz.f5, go_sem]) rfl ?_
  exact ⟨v, L, ao, cc, C, k, rfl, hD, hk⟩

end Rm
end Go.Proofs.YthdjfmndakeaiaaGreat

namespace Go.Proofs.YthdjfmndakeaiaaGreat
open Go.RowKit
set_option maxRecDepth 100000
namespace Rm
open Kn (K okK)
open Bit (bit memTo)
open Lc (at' RdK laceB flat OwnK cellsOf setB)
open Sg (bel belows orB seesB belowI isB closedB NumsPost)
open Ch (leadK firmN In)
open Fm (firmI firmB lastI)
open Cur (At)

/-- coins that lie there -/
structure CoinsW (w : World) (ao : Option Addr) (C : List Int) : Prop where
  rd : Lst.Rd w ao C
  at' : ∀ c, ao = some ⟨c, 0, none⟩ → c < w.heap.size
  len : C.length ≤ 7
theorem CoinsW.below {w w' : World} {ao : Option Addr} {C : List Int} (h : CoinsW w ao C) (hb : Below w.heap.size w w') : CoinsW w' ao C :=
  ⟨Ch.rd_below h.rd h.at' hb, fun c e => Nat.lt_of_lt_of_le (h.at' c e) hb.size, h.len⟩
theorem coinsW_of {w w' : World} {v : Value} {L : List K} {ao : Option Addr} {cc : Nat} {C : List Int} (h : DrawnC w w' v L ao cc C) : CoinsW w' ao C := ⟨Lst.own_rd h.co, own_at h.co, h.c7⟩
theorem LiesS.lt {w : World} {g : Nat} {L : List K} (h : LiesS w g L) (hL : 0 < L.length) : g < w.heap.size := (h.rd.on 0 hL).1

/-- a list of knots and coins lie there -/
structure LiesC (w : World) (g : Nat) (L : List K) (ao : Option Addr) (C : List Int) : Prop where
  l : LiesS w g L
  lt : g < w.heap.size
  c : CoinsW w ao C
theorem LiesC.below {w w' : World} {g : Nat} {L : List K} {ao : Option Addr} {C : List Int} (h : LiesC w g L ao C) (hb : Below w.heap.size w w') : LiesC w' g L ao C := ⟨h.l.below hb, Nat.lt_of_lt_of_le h.lt hb.size, h.c.below hb⟩
theorem drawn_liesC {w w' : World} {v : Value} {L : List K} {ao : Option Addr} {cc : Nat} {C : List Int} (h : DrawnC w w' v L ao cc C) : ∃ g cp, v = .slice (some ⟨g, 0, none⟩) L.length cp ∧ L.length ≤ cp ∧ LiesC w' g L ao C := by
  obtain ⟨g, cp, rfl, hcp, hL⟩ := drawn_liesS h.dr
  exact ⟨g, cp, rfl, hcp, hL, (ownK_at h.dr.own).1, coinsW_of h⟩

theorem closed_at {L : List K} {s : Int} (h : closedB L s = true) : laceB L = true ∧ (0 ≤ s ∧ s < 1152921504606846976) ∧ (∀ i, bit s i = true → i < L.length) ∧ ∀ i, i < L.length → bit s i = true → ∀ j, bit (bel L i) j = true → bit s j = true := by
  unfold Sg.closedB at h
  rw [Bool.and_eq_true] at h
  obtain ⟨hl, q0, q1, qd, h60, _⟩ := Lc.setB_parts h.1
  refine ⟨hl, ⟨q0, q1⟩, fun i hi => ?_, (Sg.closed_iff L s L.length h60 q0 q1).1 h.2⟩
  apply Classical.byContradiction
  intro hn
  rw [Lc.bit_hi s L.length q0 qd i (by omega)] at hi
  exact Bool.noConfusion hi
theorem closed_of {L : List K} {s : Int} (hl : laceB L = true) (h0 : 0 ≤ s) (h1 : s < 1152921504606846976) (hin : ∀ i, bit s i = true → i < L.length) (h : ∀ i, i < L.length → bit s i = true → ∀ j, bit (bel L i) j = true → bit s j = true) : closedB L s = true := by
  have h60 := ((Lc.lace_iff L).1 hl).1
  unfold Sg.closedB
  rw [Bool.and_eq_true]
  refine ⟨?_, (Sg.closed_iff L s L.length h60 h0 h1).2 h⟩
  have hd : s / 2 ^ L.length = 0 := Lc.div_of_bits _ _ h0 fun i hi => by
    rw [Bool.eq_false_iff]; intro q; have := hin i q; omega
  rw [Lc.setB_eq, hl]
  unfold Lc.inL
  rw [decide_eq_true h0, decide_eq_true hd]; rfl
theorem closed_or {L : List K} {s t : Int} (hs : closedB L s = true) (ht : closedB L t = true) : closedB L (orB s t) = true := by
  obtain ⟨hl, sb, s1, s2⟩ := closed_at hs
  obtain ⟨_, tb, t1, t2⟩ := closed_at ht
  have hb := Sg.orB_bd s t sb.1 sb.2 tb.1 tb.2
  refine closed_of hl hb.1 hb.2 (fun i hi => ?_) (fun i hi hb2 j hj => ?_)
  · rw [Sg.bit_orB s t sb.1 tb.1, Bool.or_eq_true] at hi
    rcases hi with q | q
    · exact s1 i q
    · exact t1 i q
  · rw [Sg.bit_orB s t sb.1 tb.1, Bool.or_eq_true] at hb2 ⊢
    rcases hb2 with q | q
    · exact .inl (s2 i hi q j hj)
    · exact .inr (t2 i hi q j hj)

/-- what is firm stays firm where more is known -/
theorem firm_stays {L : List K} {C : List Int} {s : Int} (hs : closedB L s = true) {x y : Nat} (hx : x < L.length) (hy : y < L.length) : ∃ t : Int, bits .or .i64 (bits .or .i64 s (belowI L (x : Int))) (belowI L (y : Int)) = t ∧ (0 ≤ t ∧ t < 1152921504606846976) ∧ ∀ k ∈ firmI L C s, firmB L C t k = true := by
  obtain ⟨hl, sb, s1, s2⟩ := closed_at hs
  have h60 := ((Lc.lace_iff L).1 hl).1
  have bx := Sg.bel_bd L x (by omega)
  have by' := Sg.bel_bd L y (by omega)
  have cx := bel_closed hl hx
  have cy := bel_closed hl hy
  rw [below_at hl x hx, below_at hl y hy, Sg.or_eq s _ sb.1 sb.2 bx.1 bx.2]
  have ob := Sg.orB_bd s (bel L x) sb.1 sb.2 bx.1 bx.2
  rw [Sg.or_eq _ _ ob.1 ob.2 by'.1 by'.2]
  have tb := Sg.orB_bd (orB s (bel L x)) (bel L y) ob.1 ob.2 by'.1 by'.2
  refine ⟨_, rfl, tb, fun k hk => ?_⟩
  unfold Fm.firmI at hk
  split at hk
  · rename_i hc
    rw [Bool.and_eq_true] at hc
    have ct := closed_or (closed_or hs cx) cy
    obtain ⟨p, rfl, hp, hF⟩ := (Tl.mem_firm L C s L.length k).1 hk
    unfold Fm.firmB Fm.firmI
    rw [ct, hc.2]
    simp only [Bool.and_self, if_true]
    rw [List.contains_iff_mem]
    refine (Tl.mem_firm L C _ L.length _).2 ⟨p, rfl, hp, Ch.firm_more h60 ⟨sb.1, sb.2⟩ ⟨tb.1, tb.2⟩ (fun i hi => ?_) hF⟩
    rw [Sg.bit_orB _ _ ob.1 by'.1, Sg.bit_orB _ _ sb.1 bx.1, hi]; rfl
  · exact absurd hk (by simp)

end Rm
end Go.Proofs.YthdjfmndakeaiaaGreat

namespace Go.Proofs.YthdjfmndakeaiaaGreat
open Go.RowKit
set_option maxRecDepth 100000
namespace Ch
open Kn (K okK)
open Bit (bit)
open Lc (at' laceB)
open Sg (isB bel)
open Sl (sealN sealsB)

theorem chF_in (L : List K) (C : List Int) : ∀ (f : Nat) (k x : Int), x ∈ chF L C f k → 0 ≤ x ∧ x ≤ k := by
  intro f
  induction f with
  | zero => intro k x h; simp [chF] at h
  | succ f ih =>
    intro k x h
    unfold chF at h
    by_cases hk : k < 0
    · rw [if_pos hk] at h; simp at h
    · rw [if_neg hk] at h
      rcases List.mem_append.1 h with h | h
      · have h1 := ih _ _ h
        have h2 := earlier_lt L C k.toNat
        omega
      · simp at h; omega
theorem chain_in {L : List K} {C : List Int} {k x : Int} (h : x ∈ chainL L C k) : 0 ≤ x ∧ x ≤ k := chF_in L C _ _ _ h

/-- the leader before: none, or one that there is -/
theorem earlier_cases (L : List K) (C : List Int) (k : Nat) : (earlierN L C k = -1 ∧ ∀ x, x < k → earN L C k x = false) ∨ ∃ e : Nat, earlierN L C k = (e : Int) ∧ e < k ∧ earN L C k e = true ∧ ∀ x, x < k → earN L C k x = true → (at' L x).round ≤ (at' L e).round := by
  rcases ear_spec L C k k with h | ⟨e, h1, h2, h3, h4⟩
  · exact .inl h
  · exact .inr ⟨e, h1, h2, h3, fun x hx hc => (h4 x hx hc).1⟩

theorem chain_ne (L : List K) (C : List Int) (k : Nat) : 0 < (chainL L C (k : Int)).length := by
  rw [chain_step]; simp
theorem chain_last (L : List K) (C : List Int) (k : Nat) : (chainL L C (k : Int)).getD ((chainL L C (k : Int)).length - 1) 0 = (k : Int) := by
  rw [chain_step]; simp [List.getD]
/-- the one before the last is the leader before; if there is none, the chain has one link -/
theorem chain_before (L : List K) (C : List Int) (k : Nat) : ((chainL L C (k : Int)).length = 1 ∧ earlierN L C k = -1) ∨ (1 < (chainL L C (k : Int)).length ∧ (chainL L C (k : Int)).getD ((chainL L C (k : Int)).length - 2) 0 = earlierN L C k) := by
  rcases earlier_cases L C k with ⟨h, _⟩ | ⟨e, h, _⟩
  · left
    rw [chain_step, h, chain_neg L C (by omega)]
    exact ⟨rfl, rfl⟩
  · right
    have h1 := chain_ne L C e
    have h2 := chain_last L C e
    rw [chain_step, h]
    generalize chainL L C (e : Int) = c at h1 h2
    refine ⟨by simp; omega, ?_⟩
    have : (c ++ [(k : Int)]).length - 2 = c.length - 1 := by simp
    rw [this]
    unfold List.getD at h2 ⊢
    rw [List.getElem?_append_left (by omega)]
    exact h2

/-- a link of a chain -/
structure Link (L : List K) (C : List Int) (c : List Int) (i x y : Nat) : Prop where
  hx : c.getD (i - 1) 0 = (x : Int)
  hy : c.getD i 0 = (y : Int)
  lx : x < L.length
  ly : y < L.length
  rd : (at' L x).round < (at' L y).round
  sl : sealN L y x = true
  ld : leadK C (at' L x) = true
  tk : chainL L C (x : Int) = c.take i

theorem chain_links {L : List K} (hl : laceB L = true) (C : List Int) : ∀ k, k < L.length → ∀ i, 0 < i → i < (chainL L C (k : Int)).length → ∃ x y, Link L C (chainL L C (k : Int)) i x y := by
  intro k
  induction k using Nat.strongRecOn with
  | _ k ih =>
    intro hk i h0 hi
    rcases earlier_cases L C k with ⟨h, _⟩ | ⟨e, h, hek, hec, _⟩
    · rw [chain_step, h, chain_neg L C (by omega)] at hi
      simp at hi
      omega
    · have hel : e < L.length := by omega
      have h1 := chain_ne L C e
      have h2 := chain_last L C e
      have hstep : chainL L C (k : Int) = chainL L C (e : Int) ++ [(k : Int)] := by rw [chain_step, h]
      rw [hstep] at hi ⊢
      by_cases hlt : i < (chainL L C (e : Int)).length
      · obtain ⟨x, y, q⟩ := ih e hek hel i h0 hlt
        refine ⟨x, y, ?_, ?_, q.lx, q.ly, q.rd, q.sl, q.ld, ?_⟩
        · have := q.hx
          unfold List.getD at this ⊢
          rw [List.getElem?_append_left (by omega)]
          exact this
        · have := q.hy
          unfold List.getD at this ⊢
          rw [List.getElem?_append_left (by omega)]
          exact this
        · rw [List.take_append_of_le_length (by omega)]
          exact q.tk
      · have hie : i = (chainL L C (e : Int)).length := by simp at hi; omega
        unfold earN at hec
        simp only [Bool.and_eq_true] at hec
        refine ⟨e, k, ?_, ?_, hel, hk, Ag.sees_round hl hk hec.1 (by omega), hec.2.2, hec.2.1, ?_⟩
        · rw [hie]
          unfold List.getD at h2 ⊢
          rw [List.getElem?_append_left (by omega)]
          exact h2
        · rw [hie]; simp [List.getD]
        · rw [hie, List.take_append_of_le_length (Nat.le_refl _), List.take_length]

/-- no leader that k seals comes after the leader before -/
theorem chain_best {L : List K} (hl : laceB L = true) {C : List Int} {k y : Nat} (hk : k < L.length) (hne : y ≠ k) (hld : leadK C (at' L y) = true) (hsl : sealN L k y = true) : 0 ≤ earlierN L C k ∧ (at' L y).round ≤ (at' L (earlierN L C k).toNat).round := by
  have hse := Sl.seal_sees hl hk hsl
  have hle := Ag.sees_le hl hk hse
  have hc : earN L C k y = true := by unfold earN; rw [hse, hld, hsl]; rfl
  rcases earlier_cases L C k with ⟨_, hno⟩ | ⟨e, h, hek, hec, hb⟩
  · rw [hno y (by omega)] at hc; exact Bool.noConfusion hc
  · rw [h, Int.toNat_natCast]
    exact ⟨by omega, hb y (by omega) hc⟩

end Ch
end Go.Proofs.YthdjfmndakeaiaaGreat

namespace Go.Proofs.YthdjfmndakeaiaaGreat
open Go.RowKit
set_option maxRecDepth 100000
namespace Rm
open Kn (K okK)
open Bit (bit memTo)
open Lc (at' RdK laceB flat OwnK cellsOf)
open Cur (At)

theorem DrawnC.below {w w1 w' : World} {v : Value} {L : List K} {ao : Option Addr} {cc : Nat} {C : List Int} (h : DrawnC w w1 v L ao cc C) (hb : Below w1.heap.size w1 w') : DrawnC w w' v L ao cc C :=
  ⟨⟨Lc.ownK_below h.dr.own hb, h.dr.len, h.dr.word, h.dr.bel.trans (hb.mono h.dr.bel.size)⟩, Lst.own_below h.co hb, h.c7⟩

theorem chainI_in {L : List K} {C : List Int} {k x : Int} (h : x ∈ Ch.chainI L C k) : 0 ≤ x ∧ x ≤ k := by
  unfold Ch.chainI at h
  split at h
  · exact Ch.chain_in h
  · simp at h

set_option maxHeartbeats 3200000 in
theorem drawOnChain (HD : DrawsRoom) (HDC : DrawsRoomC) (a : Option Addr) (len cap : Nat) (w : World) (hl : len ≤ 4096) (hc : Cur.Code w a len) :
    Calls Tryz.prog 8 #[.slice a len cap] w fun e w' => ∃ v L ao cc C k x, e = .returned (.tuple #[v, .slice ao (C : List Int).length cc, .int .i64 k, .int .i64 x]) ∧ DrawnC w w' v L ao cc C ∧ (-9223372036854775808 ≤ k ∧ k ≤ 9223372036854775807) ∧ (-9223372036854775808 ≤ x ∧ x ≤ 9223372036854775807) := by
  have HDD : Hid DrawsRoom := HD
  have HDX : Hid DrawsRoomC := HDC
  have HCode : Hid (Cur.Code w a len) := hc
  clear HD HDC hc
  go_enter Tryz.func8, Tryz.ntmps8
  go_wp2_with fail
  refine (drawEarlier HDD.out HDX.out a len cap _ hl HCode.out).mono ?_
  rintro e w1 ⟨v, L, ao, cc, C, k, rfl, hD, hk⟩
  obtain ⟨g, cp, rfl, hcp, hL1⟩ := drawn_liesC hD
  have h61 := hL1.l.len
  have HD1 : Hid (DrawnC w w1 (.slice (some ⟨g, 0, none⟩) L.length cp) L ao cc C) := hD
  have HC1 : Hid (Cur.Code w1 a len) := code_below2 HCode.out hD.dr.bel
  clear hD
  go_wp2_with fail
  refine (Cur.new a len cap w1 hl HC1.out).mono ?_
  rintro e w2 ⟨rfl, hA2, hb2⟩
  have HL2 : Hid (LiesC w2 g L ao C) := hL1.below hb2
  have hsp := Ch.specChainOf g 0 cp L ao cc C k w2 hcp HL2.out.l.words HL2.out.lt HL2.out.l.rd (by have := HL2.out.c.len; omega) HL2.out.c.rd HL2.out.c.at'
  clear hL1
  go_wp2_with fail
  refine hsp.mono ?_
  rintro e w3 ⟨xo, xc, rfl, hox, hb3⟩
  have hcl := Ch.chainI_len (L := L) (C := C) (k := k)
  have HIN : Hid (∀ x, x ∈ Ch.chainI L C k → 0 ≤ x ∧ x ≤ k) := fun x hx => chainI_in hx
  have hlt2 : w1.heap.size < w2.heap.size := hA2.lt
  have HA3 : Hid (At w1.heap.size a len cap w3) := hA2.below hb3
  have HB3 : Hid (Below w1.heap.size w1 w3) := hb2.trans (hb3.mono hb2.size)
  have HO3 : Hid (Memb.Own w2.heap.size w3 xo xc (Ch.chainI L C k)) := hox
  clear hsp hA2 hb2 hb3 hox HL2
  generalize Ch.chainI L C k = X at hcl HIN HO3 ⊢
  by_cases h0 : 0 < X.length
  · have h0i : (0 : Int) < (X.length : Int) := by omega
    go_wp2_with fail
    refine (Cur.once w1.heap.size a len cap 2 _ hl (by omega) HA3.out).mono ?_
    rintro e w4 ⟨b, rfl, hA4, hG4⟩
    have HO4 : Hid (Memb.Own w2.heap.size w4 xo xc X) := Draw.own_grown HO3.out hG4 hlt2
    have HB4 : Hid (Below w1.heap.size w1 w4) := Draw.below_of_grown HB3.out (Nat.le_refl _) hG4
    clear HO3 HB3 HA3 hG4
    cases b
    · go_wp2_with fail
      refine (l3DrawAt _ a len cap L.length _ hl h61 hA4).mono ?_
      rintro e w7 ⟨r, rfl, hr, hA7, hG7⟩
      have HF : Hid (DrawnC w w7 (.slice (some ⟨g, 0, none⟩) L.length cp) L ao cc C) := HD1.out.below (Draw.below_of_grown HB4.out (Nat.le_refl _) hG7)
      clear hA4 hA7 hG7 HB4 HO4
      go_wp2
      refine bodyPost_ret (v := .tuple #[.slice (some ⟨g, 0, none⟩) L.length cp, .slice ao C.length cc, .int .i64 k, .int .i64 r]) (by simp [results, Tryz.f8, go_sem]) rfl ?_
      exact ⟨_, L, ao, cc, C, k, r, rfl, HF.out, hk, hr⟩
    · rcases Lst.own_rd HO4.out with e | ⟨fb, rfl, _⟩
      · rw [e] at h0; simp at h0
      have HCB : Hid (∀ Y : World, Below w4.heap.size w4 Y → Calls Tryz.prog 26 #[.pointer (some ⟨w1.heap.size, 0, none⟩), .int .i64 (X.length : Int)] Y fun e w' => ∃ (n : Nat) (r : Int), e = .returned (.int .i64 (n : Int)) ∧ (n : Int) < (X.length : Int) ∧ n < X.length ∧ r = X.getD n 0 ∧ (∀ m, m < X.length → w'.cell? ⟨fb, m, none⟩ = some (.int .i64 (X.getD m 0))) ∧ (-9223372036854775808 ≤ r ∧ r ≤ 9223372036854775807) ∧ Hid (DrawnC w w' (.slice (some ⟨g, 0, none⟩) L.length cp) L ao cc C)) := fun Y hY => by
        refine (Cur.below w1.heap.size a len cap (X.length : Int) Y hl (by omega) (hA4.below hY)).mono ?_
        rintro e w7 ⟨x, rfl, hx0, hx1, hA7, hG7⟩
        have hx2 := hx1 h0i
        obtain ⟨n, rfl⟩ := Int.eq_ofNat_of_zero_le hx0
        have hn : n < X.length := by omega
        have hr := HIN.out (X.getD n 0) (by simp [List.getD, List.getElem?_eq_getElem hn])
        refine ⟨n, X.getD n 0, rfl, hx2, hn, rfl, ?_, by omega, HD1.out.below (Draw.below_of_grown (HB4.out.trans (hY.mono HB4.out.size)) (Nat.le_refl _) hG7)⟩
        rcases Lst.own_rd (Draw.own_grown (Lst.own_below HO4.out hY) hG7 hlt2) with e | ⟨fb', e, hcell⟩
        · rw [e] at h0; simp at h0
        · injection e with e; injection e with e; subst e; exact hcell
      have HSB : Hid (∀ Y : World, Below w4.heap.size w4 Y → ∀ m, m < X.length → Y.cell? ⟨fb, m, none⟩ = some (.int .i64 (X.getD m 0))) := fun Y hY m hm => by
        rcases Lst.own_rd (Lst.own_below HO4.out hY) with e | ⟨fb', e, hcell⟩
        · rw [e] at h0; simp at h0
        · injection e with e; injection e with e; subst e; exact hcell m hm
      clear hA4 HB4 HO4
      go_wp2_with fail
      go_region_held3 (fun Y => ∀ m, m < X.length → Y.cell? ⟨fb, m, none⟩ = some (.int .i64 (X.getD m 0))) (first | exact hcj | exact HSB.out _ (Below.refl _ _).drew | exact HSB.out _ (Below.refl _ _) | go_keep) (first
        | (go_at_call 26
           refine (HCB.out _ (by first | exact (Below.refl _ _).drew | exact Below.refl _ _)).mono ?_
           rintro e w7 ⟨n, r, rfl, hni, hn, rfl, hcj, hr, HF⟩))
      all_goals go_wp2
      all_goals refine bodyPost_ret (v := .tuple #[.slice (some ⟨g, 0, none⟩) L.length cp, .slice ao C.length cc, .int .i64 k, .int .i64 (X.getD n 0)]) (by simp [results, Tryz.f8, go_sem, List.getElem?_eq_getElem hn]) rfl ?_
      all_goals exact ⟨_, L, ao, cc, C, k, X.getD n 0, rfl, HF.out, hk, hr⟩
  · have h0i : ¬ (0 : Int) < (X.length : Int) := by omega
    go_wp2_with fail
    refine (l3DrawAt _ a len cap L.length _ hl h61 HA3.out).mono ?_
    rintro e w7 ⟨r, rfl, hr, hA7, hG7⟩
    have HF : Hid (DrawnC w w7 (.slice (some ⟨g, 0, none⟩) L.length cp) L ao cc C) := HD1.out.below (Draw.below_of_grown HB3.out (Nat.le_refl _) hG7)
    clear hA7 hG7 HB3 HO3 HA3
    go_wp2
    refine bodyPost_ret (v := .tuple #[.slice (some ⟨g, 0, none⟩) L.length cp, .slice ao C.length cc, .int .i64 k, .int .i64 r]) (by simp [results, Tryz.f8, go_sem]) rfl ?_
    exact ⟨_, L, ao, cc, C, k, r, rfl, HF.out, hk, hr⟩

end Rm
end Go.Proofs.YthdjfmndakeaiaaGreat

namespace Go.Proofs.YthdjfmndakeaiaaGreat
open Go.RowKit
set_option maxRecDepth 100000
namespace Nd
open Kn (K okK)
open Bit (bit withB)
open Lc (at' RdK amongI HandsOk)
open Db (RowI)

/-- those of a set, of the first n, that a hand tied -/
def hf (L : List K) (s h : Int) (n : Nat) : Int := amongI (fun k => decide (k.hand = h)) L s n

theorem hf_step (L : List K) (s h : Int) (n : Nat) : hf L s h (n + 1) = if bit s n && decide ((at' L n).hand = h) then withB (hf L s h n) n else hf L s h n := rfl
theorem hf_bd (L : List K) (s h : Int) (n : Nat) (hn : n ≤ 60) : 0 ≤ hf L s h n ∧ hf L s h n < 1152921504606846976 := Lc.among_bd _ L s n hn
theorem hf_miss (L : List K) (s : Int) (n : Nat) (hb : bit s n = false) : (fun h : Nat => hf L s h (n + 1)) = fun h : Nat => hf L s h n := by
  funext h; rw [hf_step, hb]; simp
theorem hf_hit (L : List K) (s : Int) (n m : Nat) (hb : bit s n = true) (hm : (at' L n).hand = (m : Int)) : (fun h : Nat => if h = m then withB (hf L s m n) n else hf L s h n) = fun h : Nat => hf L s h (n + 1) := by
  funext h; rw [hf_step, hb, hm]
  by_cases e : h = m
  · subst e; simp
  · have : ¬ ((m : Int) = (h : Int)) := by omega
    rw [if_neg e, decide_eq_false this]; simp

theorem rowI_alloc {w : World} {g n : Nat} {D : Nat → Int} (h : RowI w g n D) (o : Obj) : RowI (w.alloc o) g n D where
  lt := by have := h.lt; simp; omega
  rd := fun i hi => by rw [World.cell?_alloc_lt _ _ _ h.lt]; exact h.rd i hi
  fr := fun i hi => by rw [World.frozen?_alloc_past _ _ _ h.lt]; exact h.fr i hi
theorem rowI_other {w : World} {g n : Nat} {D : Nat → Int} (h : RowI w g n D) (c i : Nat) (hc : g ≠ c) (v : Value) : RowI (w.setCell ⟨c, i, none⟩ v) g n D where
  lt := by simpa using h.lt
  rd := fun j hj => (World.cell?_of_block (w := w) (Below.heap_setCell w ⟨c, i, none⟩ v g hc)).trans (h.rd j hj)
  fr := fun j hj => by rw [World.frozen?_setCell]; exact h.fr j hj

theorem rowI_four (w : World) (t : TypeId) : RowI (w.alloc (.cells #[.int .i64 0, .int .i64 0, .int .i64 0, .int .i64 0] t)) w.heap.size 4 (fun _ => 0) where
  lt := by simp
  rd := fun i hi => by
    match i, hi with
    | 0, _ => simp
    | 1, _ => simp
    | 2, _ => simp
    | 3, _ => simp
  fr := fun i hi => by
    match i, hi with
    | 0, _ => simp
    | 1, _ => simp
    | 2, _ => simp
    | 3, _ => simp

set_option maxHeartbeats 1600000 in
theorem handfulsOf (g off cap : Nat) (L : List K) (s : Int) (w : World) (hL : L.length ≤ 60) (hs : Base.okB s = true) (hh : HandsOk L) (hr : RdK w (some ⟨g, off, none⟩) L) :
    Calls Tryz.prog 109 #[.slice (some ⟨g, off, none⟩) L.length cap, .int .i64 s] w fun e w' =>
      e = .returned (.agg #[.int .i64 (hf L s 0 L.length), .int .i64 (hf L s 1 L.length), .int .i64 (hf L s 2 L.length), .int .i64 (hf L s 3 L.length)]) ∧ Below w.heap.size w w' := by
  have HO : Hid (Base.okB s = true) := hs
  have P0 : Hid (RowI ((w.alloc (.cells #[.int .i64 0, .int .i64 0, .int .i64 0, .int .i64 0] 149)).alloc (.cells #[.int .i64 0, .int .i64 0, .int .i64 0, .int .i64 0] 149)) w.heap.size 4 (fun _ => 0) ∧
      RowI ((w.alloc (.cells #[.int .i64 0, .int .i64 0, .int .i64 0, .int .i64 0] 149)).alloc (.cells #[.int .i64 0, .int .i64 0, .int .i64 0, .int .i64 0] 149)) (w.heap.size + 1) 4 (fun _ => 0) ∧
      Below w.heap.size w ((w.alloc (.cells #[.int .i64 0, .int .i64 0, .int .i64 0, .int .i64 0] 149)).alloc (.cells #[.int .i64 0, .int .i64 0, .int .i64 0, .int .i64 0] 149))) :=
    ⟨rowI_alloc (rowI_four w _) _, by have := rowI_four (w.alloc (.cells #[.int .i64 0, .int .i64 0, .int .i64 0, .int .i64 0] 149)) 149; simpa using this, ((Below.refl _ w).alloc (Nat.le_refl _) _).alloc (by simp) _⟩
  clear hs
  go_enter Tryz.func109, Tryz.ntmps109
  go_wp2
  go_loopw [10] (fun i wr => ∃ j : Nat, j ≤ L.length ∧ i = .int .i64 j ∧ Hid (RowI wr w.heap.size 4 (fun _ => 0)) ∧ Hid (RowI wr (w.heap.size + 1) 4 (fun h => hf L s h j)) ∧ Hid (Below w.heap.size w wr)) (fun i _ => L.length - (intOf i).toNat)
  case atStart => exact ⟨0, by omega, rfl, P0.out.1, P0.out.2.1, P0.out.2.2⟩
  case round =>
    obtain ⟨j, hj, rfl, HR, HF, HB⟩ := hrel
    clear P0
    by_cases hlt : j < L.length
    · obtain ⟨hg, hc⟩ := hr.on j hlt
      obtain ⟨c0, c1, c2, c3⟩ := hc.below HB.out hg
      have hin : Base.inB (j : Int) = true := (Base.inB_iff _).2 ⟨by omega, by omega⟩
      have hk := hh _ (Lc.at_mem L j hlt)
      cases hb : bit s j
      · have HH : Hid ((Base.okB s && (Base.inB (j : Int) && bit s j)) = false) := by show _ = _; simp [hb]
        have HD : Hid ((fun h : Nat => hf L s h (j + 1)) = fun h : Nat => hf L s h j) := hf_miss L s j hb
        clear hb hin hk
        go_wp2_with (go_at_call 21; refine (Base.has _ _ _).mono ?_; rintro e w' ⟨rfl, rfl⟩; rw [Int.toNat_natCast, HH.out])
        go_roundw
        case rel => exact ⟨j + 1, by omega, by go_num, rowI_alloc HR.out _, by show RowI _ _ _ _; rw [HD.out]; exact rowI_alloc HF.out _, HB.out.alloc HB.out.size _⟩
        case measure => simp [intOf]; omega
      · have HH : Hid ((Base.okB s && (Base.inB (j : Int) && bit s j)) = true) := by show _ = _; simp [hb, hin, HO.out]
        obtain ⟨m, hm⟩ := Int.eq_ofNat_of_zero_le hk.1
        have hm4 : m < 4 := by omega
        have HD : Hid ((fun h : Nat => if h = m then withB (hf L s m j) j else hf L s h j) = fun h : Nat => hf L s h (j + 1)) := hf_hit L s j m hb hm
        have hbd := hf_bd L s m j (by omega)
        have HW : Hid (Base.withI (hf L s m j) (j : Int) = withB (hf L s m j) j) := by
          show _ = _
          unfold Base.withI
          rw [(Base.okB_iff _).2 hbd, hin]; simp
        have HR1 : Hid (RowI (wr.alloc (.cells #[.int .i64 m, .int .i64 (at' L j).round, .int .i64 (at' L j).frm, .string (at' L j).word] 98)) w.heap.size 4 (fun _ => 0)) := rowI_alloc HR.out _
        have HF1 : Hid (RowI (wr.alloc (.cells #[.int .i64 m, .int .i64 (at' L j).round, .int .i64 (at' L j).frm, .string (at' L j).word] 98)) (w.heap.size + 1) 4 (fun h => hf L s h j)) := rowI_alloc HF.out _
        have HB1 : Hid (Below w.heap.size w (wr.alloc (.cells #[.int .i64 m, .int .i64 (at' L j).round, .int .i64 (at' L j).frm, .string (at' L j).word] 98))) := HB.out.alloc HB.out.size _
        have HK1 : Hid ((wr.alloc (.cells #[.int .i64 m, .int .i64 (at' L j).round, .int .i64 (at' L j).frm, .string (at' L j).word] 98)).cell? ⟨wr.heap.size, 0, none⟩ = some (.int .i64 m)) := by show _ = _; simp
        rw [hm] at c0
        clear hb hin hk hbd hm HR HF
        go_wp2_with (first | (go_at_call 21; refine (Base.has _ _ _).mono ?_; rintro e w' ⟨rfl, rfl⟩; rw [Int.toNat_natCast, HH.out]) | fail)
        clear HH c0 c1 c2 c3 hc
        generalize wr.alloc (.cells #[.int .i64 m, .int .i64 (at' L j).round, .int .i64 (at' L j).frm, .string (at' L j).word] 98) = V at HR1 HF1 HB1 HK1 ⊢
        generalize wr.heap.size = kb at HK1 ⊢
        have d0 := HK1.out
        have e1 := HF1.out.rd m hm4
        have f1 := HF1.out.fr m hm4
        have hmi : (m : Int) < 4 := by omega
        have HR2 : Hid (RowI (V.setCell ⟨w.heap.size + 1, m, none⟩ (.int .i64 (withB (hf L s m j) j))) w.heap.size 4 (fun _ => 0)) := rowI_other HR1.out _ _ (by omega) _
        have HF2 : Hid (RowI (V.setCell ⟨w.heap.size + 1, m, none⟩ (.int .i64 (withB (hf L s m j) j))) (w.heap.size + 1) 4 (fun h => hf L s h (j + 1))) := by
          show RowI _ _ _ _
          rw [← HD.out]; exact HF1.out.put m hm4 _
        have HB2 : Hid (Below w.heap.size w (V.setCell ⟨w.heap.size + 1, m, none⟩ (.int .i64 (withB (hf L s m j) j)))) := HB1.out.setCell (p := ⟨w.heap.size + 1, m, none⟩) (by simp) _
        clear HR1 HF1 HB1 HK1 HD
        generalize hf L s m j = x at e1 HW HR2 HF2 HB2
        go_region_with (go_at_call 69; refine (Base.withM _ _ _).mono ?_; rintro e w' ⟨rfl, rfl⟩; rw [HW.out])
        all_goals
          go_wp2
          go_roundw
          case rel => exact ⟨j + 1, by omega, by go_num, HR2.out.drew, HF2.out.drew, HB2.out.drew⟩
          case measure => simp [intOf]; omega
    · obtain rfl : j = L.length := by omega
      have r0 := HR.out.rd 0 (by omega)
      have r1 := HR.out.rd 1 (by omega)
      have r2 := HR.out.rd 2 (by omega)
      have r3 := HR.out.rd 3 (by omega)
      have q0 := HR.out.fr 0 (by omega)
      have q1 := HR.out.fr 1 (by omega)
      have q2 := HR.out.fr 2 (by omega)
      have q3 := HR.out.fr 3 (by omega)
      have f0 := HF.out.rd 0 (by omega)
      have f1 := HF.out.rd 1 (by omega)
      have f2 := HF.out.rd 2 (by omega)
      have f3 := HF.out.rd 3 (by omega)
      have HP4 : Hid (∀ x0 x1 x2 x3 : Int, ∃ W4, W4 = ((((wr.setCell ⟨w.heap.size, 0, none⟩ (.int .i64 x0)).setCell ⟨w.heap.size, 1, none⟩ (.int .i64 x1)).setCell ⟨w.heap.size, 2, none⟩ (.int .i64 x2)).setCell ⟨w.heap.size, 3, none⟩ (.int .i64 x3)) ∧
          W4.cell? ⟨w.heap.size, 0, none⟩ = some (.int .i64 x0) ∧ W4.cell? ⟨w.heap.size, 1, none⟩ = some (.int .i64 x1) ∧ W4.cell? ⟨w.heap.size, 2, none⟩ = some (.int .i64 x2) ∧ W4.cell? ⟨w.heap.size, 3, none⟩ = some (.int .i64 x3) ∧ Below w.heap.size w W4) := fun x0 x1 x2 x3 => by
        have h1 := (((HR.out.put 0 (by omega) x0).put 1 (by omega) x1).put 2 (by omega) x2).put 3 (by omega) x3
        refine ⟨_, rfl, h1.rd 0 (by omega), h1.rd 1 (by omega), h1.rd 2 (by omega), h1.rd 3 (by omega), ?_⟩
        exact (((HB.out.setCell (p := ⟨w.heap.size, 0, none⟩) (Nat.le_refl _) _).setCell (p := ⟨w.heap.size, 1, none⟩) (Nat.le_refl _) _).setCell (p := ⟨w.heap.size, 2, none⟩) (Nat.le_refl _) _).setCell (p := ⟨w.heap.size, 3, none⟩) (Nat.le_refl _) _
      go_wp2
      obtain ⟨W4, hW4, k0, k1, k2, k3, hB4⟩ := HP4.out (hf L s 0 L.length) (hf L s 1 L.length) (hf L s 2 L.length) (hf L s 3 L.length)
      rw [← hW4]
      refine bodyPost_ret (v := .agg #[.int .i64 (hf L s 0 L.length), .int .i64 (hf L s 1 L.length), .int .i64 (hf L s 2 L.length), .int .i64 (hf L s 3 L.length)]) (by simp [results, Tryz.f109, go_sem, k0, k1, k2, k3]) rfl ?_
      exact ⟨rfl, hB4⟩

end Nd
end Go.Proofs.YthdjfmndakeaiaaGreat

namespace Go.Proofs.YthdjfmndakeaiaaGreat
open Go.RowKit
set_option maxRecDepth 100000
namespace Db
open Kn (K okK)
open Bit (bit withB)
open Lc (at' RdK WordsOk laceB setB)
open Sg (isB bel belows seesB)

theorem eqSight (x y : Bool) (W : World) : (binOp .eql 162 (.agg #[.bool x, .bool y]) (.agg #[.bool false, .bool false])).run Tryz.prog W = .ok (.bool (!x && !y)) W := by
  cases x <;> cases y <;> kernel_rfl

theorem twoNew (W : World) (t : TypeId) : ((W.alloc (.cells #[.bool false, .bool false] t)).cell? ⟨W.heap.size, 0, none⟩ = some (.bool false) ∧ (W.alloc (.cells #[.bool false, .bool false] t)).cell? ⟨W.heap.size, 1, none⟩ = some (.bool false)) ∧
    (W.alloc (.cells #[.bool false, .bool false] t)).frozen? ⟨W.heap.size, 0, none⟩ = false ∧ (W.alloc (.cells #[.bool false, .bool false] t)).frozen? ⟨W.heap.size, 1, none⟩ = false := ⟨⟨by simp, by simp⟩, by simp, by simp⟩

set_option maxHeartbeats 800000 in
theorem between (g off cap : Nat) (L : List K) (a b : Int) (w : World) (hlc : laceB L = true) (hg : g < w.heap.size) (hr : RdK w (some ⟨g, off, none⟩) L) :
    Calls Tryz.prog 126 #[.slice (some ⟨g, off, none⟩) L.length cap, .int .i64 a, .int .i64 b] w fun e w' => e = .returned (.agg #[.bool (seesB L a b), .bool (seesB L b a)]) ∧ Below w.heap.size w w' := by
  have hB0 : Below w.heap.size w (w.alloc (.cells #[.bool false, .bool false] 162)) := (Below.refl _ w).alloc (Nat.le_refl _) _
  have hg0 : g < (w.alloc (.cells #[.bool false, .bool false] 162)).heap.size := by simp; omega
  have hr0 := hr.below hB0
  obtain ⟨⟨c0, c1⟩, f0, f1⟩ := twoNew w 162
  have hs0 : w.heap.size < (w.alloc (.cells #[.bool false, .bool false] 162)).heap.size := by simp
  go_enter Tryz.func126, Tryz.ntmps126
  go_wp2_with fail
  generalize w.alloc (.cells #[.bool false, .bool false] 162) = W0 at hB0 hg0 hr0 c0 c1 f0 f1 hs0 ⊢
  refine (Sg.sees g off cap L a b _ hlc hg0 hr0).mono ?_
  rintro e w1 ⟨rfl, hb1⟩
  have hr1 := hr0.below hb1
  have hg1 : g < w1.heap.size := Nat.lt_of_lt_of_le hg0 hb1.size
  go_wp2_with fail
  refine (Sg.sees g off cap L b a _ hlc hg1 hr1).mono ?_
  rintro e w2 ⟨rfl, hb2⟩
  have hb : Below W0.heap.size W0 w2 := hb1.trans (hb2.mono hb1.size)
  have d0 := (hb.cell (p := ⟨w.heap.size, 0, none⟩) hs0).trans c0
  have d1 := (hb.cell (p := ⟨w.heap.size, 1, none⟩) hs0).trans c1
  have e0 := (hb.frozen (p := ⟨w.heap.size, 0, none⟩) hs0).trans f0
  have e1 := (hb.frozen (p := ⟨w.heap.size, 1, none⟩) hs0).trans f1
  have HB : Hid (Below w.heap.size w w2) := hB0.trans (hb.mono (Nat.le_of_lt hs0))
  clear hB0 hg0 hr0 c0 c1 f0 f1 hb1 hr1 hg1 hb2 hb
  generalize hx : seesB L a b = x
  generalize hy : seesB L b a = y
  have HX : Hid (seesB L a b = x ∧ seesB L b a = y) := ⟨hx, hy⟩
  clear hx hy
  go_wp2
  have k0 : ((w2.setCell ⟨w.heap.size, 0, none⟩ (.bool x)).setCell ⟨w.heap.size, 1, none⟩ (.bool y)).cell? ⟨w.heap.size, 0, none⟩ = some (.bool x) :=
    (World.cell?_setCell_other _ _ _ _ (by intro q; injection q with _ q; omega)).trans (World.cell?_setCell_same' _ _ _ (by rw [d0]; rfl))
  have k1 : ((w2.setCell ⟨w.heap.size, 0, none⟩ (.bool x)).setCell ⟨w.heap.size, 1, none⟩ (.bool y)).cell? ⟨w.heap.size, 1, none⟩ = some (.bool y) :=
    World.cell?_setCell_same' _ _ _ (by rw [World.cell?_setCell_other _ _ _ _ (by intro q; injection q with _ q; omega), d1]; rfl)
  refine bodyPost_ret (v := .agg #[.bool x, .bool y]) (by simp [results, Tryz.f126, go_sem, k0, k1]) rfl ?_
  exact ⟨by rw [HX.out.1, HX.out.2], (HB.out.setCell (p := ⟨w.heap.size, 0, none⟩) (Nat.le_refl _) _).setCell (p := ⟨w.heap.size, 1, none⟩) (Nat.le_refl _) _⟩

/-- what the program's doubled asks -/
theorem dbl_sees {L : List K} {a b : Int} (ha : isB L a = true) (hb : isB L b = true) : doubledB L a b = (decide ((at' L a.toNat).hand = (at' L b.toNat).hand) && (!seesB L a b && !seesB L b a)) := by
  unfold doubledB dblN seesB
  rw [ha, hb]; simp

theorem isB_lace {L : List K} (hl : laceB L = true) (k : Int) : isB L k = (decide (0 ≤ k) && decide (k < (L.length : Int))) := by unfold isB; rw [hl]; simp

set_option maxHeartbeats 3200000 in
theorem doubled (g off cap : Nat) (L : List K) (a b : Int) (w : World) (hlc : laceB L = true) (hg : g < w.heap.size) (hr : RdK w (some ⟨g, off, none⟩) L) :
    Calls Tryz.prog 119 #[.slice (some ⟨g, off, none⟩) L.length cap, .int .i64 a, .int .i64 b] w fun e w' => e = .returned (.bool (doubledB L a b)) ∧ Below w.heap.size w w' := by
  have h60 := ((Lc.lace_iff L).1 hlc).1
  have HA : Hid ((Base.okB (2 ^ L.length - 1) && (Base.inB a && bit (2 ^ L.length - 1) a.toNat)) = isB L a) := by show _ = _; rw [isB_lace hlc]; exact Sg.all_has h60 a
  have HC : Hid ((Base.okB (2 ^ L.length - 1) && (Base.inB b && bit (2 ^ L.length - 1) b.toNat)) = isB L b) := by show _ = _; rw [isB_lace hlc]; exact Sg.all_has h60 b
  cases ha : isB L a
  · have HT : Hid (doubledB L a b = false) := by show _ = _; unfold doubledB; rw [ha]; rfl
    have HAF : Hid ((Base.okB (2 ^ L.length - 1) && (Base.inB a && bit (2 ^ L.length - 1) a.toNat)) = false) := HA.out.trans ha
    clear ha HA HC
    go_enter Tryz.func119, Tryz.ntmps119
    go_wp2_with (first | (go_at_call 20; refine (Lc.all _ _ _ _ h60).mono ?_; rintro e w' ⟨rfl, rfl⟩) | (go_at_call 21; refine (Base.has _ _ _).mono ?_; rintro e w' ⟨rfl, rfl⟩; rw [HAF.out]))
    go_quiet (fail)
    go_wp2
    go_ret
    exact ⟨by rw [HT.out]; rfl, Sg.below_drewN (Below.refl _ _) _⟩
  · have HAT : Hid ((Base.okB (2 ^ L.length - 1) && (Base.inB a && bit (2 ^ L.length - 1) a.toNat)) = true) := HA.out.trans ha
    cases hb : isB L b
    · have HT : Hid (doubledB L a b = false) := by show _ = _; unfold doubledB; rw [hb]; simp
      have HCF : Hid ((Base.okB (2 ^ L.length - 1) && (Base.inB b && bit (2 ^ L.length - 1) b.toNat)) = false) := HC.out.trans hb
      clear ha hb HA HC
      go_enter Tryz.func119, Tryz.ntmps119
      go_wp2_with (first | (go_at_call 20; refine (Lc.all _ _ _ _ h60).mono ?_; rintro e w' ⟨rfl, rfl⟩) | (go_at_call 21; refine (Base.has _ _ _).mono ?_; rintro e w' ⟨rfl, rfl⟩; first | rw [HAT.out] | rw [HCF.out]))
      go_quiet (fail)
      go_wp2
      go_ret
      exact ⟨by rw [HT.out]; rfl, Sg.below_drewN (Below.refl _ _) _⟩
    · have HCT : Hid ((Base.okB (2 ^ L.length - 1) && (Base.inB b && bit (2 ^ L.length - 1) b.toNat)) = true) := HC.out.trans hb
      have HT0 : Hid (doubledB L a b = (decide ((at' L a.toNat).hand = (at' L b.toNat).hand) && (!seesB L a b && !seesB L b a))) := dbl_sees ha hb
      obtain ⟨p0, p1, _⟩ := Sg.isB_parts ha
      obtain ⟨q0, q1, _⟩ := Sg.isB_parts hb
      clear ha hb HA HC
      obtain ⟨p, rfl⟩ := Int.eq_ofNat_of_zero_le p0
      obtain ⟨q, rfl⟩ := Int.eq_ofNat_of_zero_le q0
      have hp : p < L.length := by omega
      have hq : q < L.length := by omega
      rw [Int.toNat_natCast, Int.toNat_natCast] at HT0
      rw [Int.toNat_natCast] at HAT HCT
      obtain ⟨_, a0, _, _, _⟩ := hr.on p hp
      obtain ⟨_, b0, _, _, _⟩ := hr.on q hq
      by_cases hh : (at' L p).hand = (at' L q).hand
      · have hh1 : ((at' L p).hand == (at' L q).hand) = true := by simpa using hh
        have HT1 : Hid (doubledB L (p : Int) (q : Int) = (!seesB L (p : Int) (q : Int) && !seesB L (q : Int) (p : Int))) := by show _ = _; rw [HT0.out]; simp [hh]
        have HBW : Hid (∀ W : World, g < W.heap.size → RdK W (some ⟨g, off, none⟩) L → Calls Tryz.prog 126 #[.slice (some ⟨g, off, none⟩) L.length cap, .int .i64 (p : Int), .int .i64 (q : Int)] W fun e w' => e = .returned (.agg #[.bool (seesB L (p : Int) (q : Int)), .bool (seesB L (q : Int) (p : Int))]) ∧ Below W.heap.size W w') := fun W h1 h2 => between g off cap L p q W hlc h1 h2
        have heq := eqSight (seesB L (p : Int) (q : Int)) (seesB L (q : Int) (p : Int))
        generalize seesB L (p : Int) (q : Int) = x at HT1 HBW heq
        generalize seesB L (q : Int) (p : Int) = y at HT1 HBW heq
        clear hh HT0
        have HR : Hid (RdK w (some ⟨g, off, none⟩) L) := hr
        clear hr
        go_enter Tryz.func119, Tryz.ntmps119
        go_wp2_with (first | (go_at_call 20; refine (Lc.all _ _ _ _ h60).mono ?_; rintro e w' ⟨rfl, rfl⟩) | (go_at_call 21; refine (Base.has _ _ _).mono ?_; rintro e w' ⟨rfl, rfl⟩; rw [Int.toNat_natCast]; first | rw [HAT.out] | rw [HCT.out]))
        obtain ⟨X, _, F, HF, HG⟩ := Fam.fam w
        have hc1 : ∀ z, (F z).cell? ⟨g, off + p * 4, none⟩ = some (.int .i64 (at' L p).hand) := fun z => ((HF.out z).cell (p := ⟨g, off + p * 4, none⟩) hg).trans a0
        have hc2 : ∀ z, (F z).cell? ⟨g, off + q * 4, none⟩ = some (.int .i64 (at' L q).hand) := fun z => ((HF.out z).cell (p := ⟨g, off + q * 4, none⟩) hg).trans b0
        clear a0 b0
        refine Fam.region (F := F) (by kernel_rfl) (by kernel_rfl) (HG.out _ (Below.refl _ w).drew) ?_
        repeat (go_big_quiet_step (first
          | (go_at_call 126; exact (HBW.out _ (Nat.lt_of_lt_of_le hg (HF.out _).size) (HR.out.below (HF.out _))).mono fun _ _ h => ⟨h.1, HG.out _ ((HF.out _).trans (h.2.mono (HF.out _).size))⟩)))
        refine wpQuiet_nil ?_
        intro w2 hw2
        obtain ⟨z, rfl⟩ := hw2
        have HB2 : Hid (Below w.heap.size w (F z)) := HF.out z
        go_wp2
        go_ret
        exact ⟨by rw [HT1.out]; rfl, HB2.out⟩
      · have hh1 : ((at' L p).hand == (at' L q).hand) = false := by simpa using hh
        have HT1 : Hid (doubledB L (p : Int) (q : Int) = false) := by show _ = _; rw [HT0.out]; simp [hh]
        clear hh HT0
        go_enter Tryz.func119, Tryz.ntmps119
        go_wp2_with (first | (go_at_call 20; refine (Lc.all _ _ _ _ h60).mono ?_; rintro e w' ⟨rfl, rfl⟩) | (go_at_call 21; refine (Base.has _ _ _).mono ?_; rintro e w' ⟨rfl, rfl⟩; rw [Int.toNat_natCast]; first | rw [HAT.out] | rw [HCT.out]))
        go_quiet (fail)
        go_wp2
        go_ret
        exact ⟨by rw [HT1.out]; rfl, Sg.below_drewN (Below.refl _ _) _⟩

/-- those found so far -/
theorem dbl_step {L : List K} {a : Int} (ha : isB L a = true) (n : Nat) (hn : n < L.length) (hl : laceB L = true) : dblS L a.toNat (n + 1) = if doubledB L a (n : Int) then withB (dblS L a.toNat n) n else dblS L a.toNat n := by
  have hb : isB L (n : Int) = true := by rw [isB_lace hl]; simp; omega
  unfold doubledB
  rw [ha, hb, Bool.true_and, Bool.true_and, Int.toNat_natCast]; rfl

set_option maxHeartbeats 1600000 in
theorem doubles (g off cap : Nat) (L : List K) (a : Int) (w : World) (hlc : laceB L = true) (ha : isB L a = true) (hg : g < w.heap.size) (hr : RdK w (some ⟨g, off, none⟩) L) :
    Calls Tryz.prog 108 #[.slice (some ⟨g, off, none⟩) L.length cap, .int .i64 a] w fun e w' => e = .returned (.int .i64 (dblS L a.toNat L.length)) ∧ Below w.heap.size w w' := by
  have h60 := ((Lc.lace_iff L).1 hlc).1
  go_enter Tryz.func108, Tryz.ntmps108
  go_wp2
  go_loopw [5, 9] (fun o i wr => ∃ j : Nat, j ≤ L.length ∧ i = .int .i64 j ∧ o = .int .i64 (dblS L a.toNat j) ∧ Hid (Below w.heap.size w wr)) (fun _ i _ => L.length - (intOf i).toNat)
  case atStart => exact ⟨0, by omega, rfl, rfl, Below.refl _ _⟩
  case round =>
    obtain ⟨j, hj, rfl, rfl, HB⟩ := hrel
    by_cases hlt : j < L.length
    · have HS : Hid (dblS L a.toNat (j + 1) = if doubledB L a (j : Int) then withB (dblS L a.toNat j) j else dblS L a.toNat j) := dbl_step ha j hlt hlc
      have hbd := dblS_bd L a.toNat j (by omega)
      have HW : Hid (Base.withI (dblS L a.toNat j) (j : Int) = withB (dblS L a.toNat j) j) := by
        show _ = _
        unfold Base.withI
        rw [(Base.okB_iff _).2 hbd, (Base.inB_iff _).2 ⟨by omega, by omega⟩]; simp
      have hg1 : g < wr.heap.size := Nat.lt_of_lt_of_le hg HB.out.size
      have hcall := doubled g off cap L a (j : Int) wr hlc hg1 (hr.below HB.out)
      clear hbd
      generalize dblS L a.toNat j = x at HS HW ⊢
      go_wp2_with fail
      refine hcall.mono ?_
      rintro e w1 ⟨rfl, hb1⟩
      have HB1 : Hid (Below w.heap.size w w1) := HB.out.trans (hb1.mono HB.out.size)
      clear hcall hb1 HB hg1
      cases hd : doubledB L a (j : Int)
      · have HD : Hid (dblS L a.toNat (j + 1) = x) := by show _ = _; rw [HS.out, hd]; rfl
        clear hd HS HW
        go_wp2
        go_roundw
        case rel => exact ⟨j + 1, by omega, by go_num, by rw [HD.out], HB1⟩
        case measure => simp [intOf]; omega
      · have HD : Hid (dblS L a.toNat (j + 1) = withB x j) := by show _ = _; rw [HS.out, hd]; rfl
        clear hd HS
        go_wp2_with (go_at_call 69; refine (Base.withM _ _ _).mono ?_; rintro e w' ⟨rfl, rfl⟩; rw [HW.out])
        go_roundw
        case rel => exact ⟨j + 1, by omega, by go_num, by rw [HD.out], HB1⟩
        case measure => simp [intOf]; omega
    · obtain rfl : j = L.length := by omega
      go_wp2
      go_ret
      exact ⟨rfl, HB.out⟩

end Db
end Go.Proofs.YthdjfmndakeaiaaGreat

namespace Go.Proofs.YthdjfmndakeaiaaGreat
open Go.RowKit
set_option maxRecDepth 100000
set_option linter.unusedVariables false
namespace Ch
open Kn (K okK)
open Lc (at' laceB RdK WordsOk)
open Sg (isB)
open Rm (coinsB coinsTo)
open Db (RowI)

/-- whose turn each wave is, the first j coins laid -/
def led (C : List Int) (j i : Nat) : Int := if i < j then C.getD i 0 else (i : Int) % 4
theorem led_all (C : List Int) (i : Nat) : led C C.length i = leadI C (i : Int) := by
  unfold led leadI
  by_cases h : i < C.length
  · rw [if_pos h, if_pos (by omega), Int.toNat_natCast]
  · rw [if_neg h, if_neg (by omega)]
theorem led_zero (C : List Int) : led C 0 = fun i : Nat => (i : Int) % 4 := by funext i; unfold led; rw [if_neg (by omega)]
theorem led_step (C : List Int) (j : Nat) : (fun i => if i = j then C.getD j 0 else led C j i) = led C (j + 1) := by
  funext i
  unfold led
  by_cases h : i = j
  · subst h; rw [if_pos rfl, if_pos (by omega)]
  · rw [if_neg h]
    by_cases h2 : i < j
    · rw [if_pos h2, if_pos (by omega)]
    · rw [if_neg h2, if_neg (by omega)]
/-- the waves' own turns, the first j laid -/
def own4 (j i : Nat) : Int := if i < j then (i : Int) % 4 else 0
theorem own4_zero : own4 0 = fun _ => 0 := by funext i; unfold own4; rw [if_neg (by omega)]
theorem own4_step (j : Nat) : (fun i => if i = j then (j : Int) % 4 else own4 j i) = own4 (j + 1) := by
  funext i
  unfold own4
  by_cases h : i = j
  · subst h; rw [if_pos rfl, if_pos (by omega)]
  · rw [if_neg h]
    by_cases h2 : i < j
    · rw [if_pos h2, if_pos (by omega)]
    · rw [if_neg h2, if_neg (by omega)]

def seven (f : Nat → Int) : Array Value := #[.int .i64 (f 0), .int .i64 (f 1), .int .i64 (f 2), .int .i64 (f 3), .int .i64 (f 4), .int .i64 (f 5), .int .i64 (f 6)]

theorem rowI_seven (w : World) (t : TypeId) (f : Nat → Int) : RowI (w.alloc (.cells #[.int .i64 (f 0), .int .i64 (f 1), .int .i64 (f 2), .int .i64 (f 3), .int .i64 (f 4), .int .i64 (f 5), .int .i64 (f 6)] t)) w.heap.size 7 f where
  lt := by simp
  rd := fun i hi => by
    match i, hi with
    | 0, _ => simp
    | 1, _ => simp
    | 2, _ => simp
    | 3, _ => simp
    | 4, _ => simp
    | 5, _ => simp
    | 6, _ => simp
  fr := fun i hi => by
    match i, hi with
    | 0, _ => simp
    | 1, _ => simp
    | 2, _ => simp
    | 3, _ => simp
    | 4, _ => simp
    | 5, _ => simp
    | 6, _ => simp

theorem put7 {w0 wr : World} {b : Nat} {D : Nat → Int} (h : RowI wr b 7 D) (n : Nat) (hn : n ≤ b) (hB : Below n w0 wr) (x0 x1 x2 x3 x4 x5 x6 : Int) :
    ∃ W7, W7 = (((((((wr.setCell ⟨b, 0, none⟩ (.int .i64 x0)).setCell ⟨b, 1, none⟩ (.int .i64 x1)).setCell ⟨b, 2, none⟩ (.int .i64 x2)).setCell ⟨b, 3, none⟩ (.int .i64 x3)).setCell ⟨b, 4, none⟩ (.int .i64 x4)).setCell ⟨b, 5, none⟩ (.int .i64 x5)).setCell ⟨b, 6, none⟩ (.int .i64 x6)) ∧
      W7.cell? ⟨b, 0, none⟩ = some (.int .i64 x0) ∧ W7.cell? ⟨b, 1, none⟩ = some (.int .i64 x1) ∧ W7.cell? ⟨b, 2, none⟩ = some (.int .i64 x2) ∧ W7.cell? ⟨b, 3, none⟩ = some (.int .i64 x3) ∧ W7.cell? ⟨b, 4, none⟩ = some (.int .i64 x4) ∧ W7.cell? ⟨b, 5, none⟩ = some (.int .i64 x5) ∧ W7.cell? ⟨b, 6, none⟩ = some (.int .i64 x6) ∧
      (∀ i, i < 7 → W7.frozen? ⟨b, i, none⟩ = false) ∧ Below n w0 W7 := by
  have h1 := ((((((h.put 0 (by omega) x0).put 1 (by omega) x1).put 2 (by omega) x2).put 3 (by omega) x3).put 4 (by omega) x4).put 5 (by omega) x5).put 6 (by omega) x6
  refine ⟨_, rfl, h1.rd 0 (by omega), h1.rd 1 (by omega), h1.rd 2 (by omega), h1.rd 3 (by omega), h1.rd 4 (by omega), h1.rd 5 (by omega), h1.rd 6 (by omega), h1.fr, ?_⟩
  exact ((((((hB.setCell (p := ⟨b, 0, none⟩) hn _).setCell (p := ⟨b, 1, none⟩) hn _).setCell (p := ⟨b, 2, none⟩) hn _).setCell (p := ⟨b, 3, none⟩) hn _).setCell (p := ⟨b, 4, none⟩) hn _).setCell (p := ⟨b, 5, none⟩) hn _).setCell (p := ⟨b, 6, none⟩) hn _

theorem coins_long {C : List Int} (h : ¬ C.length ≤ 6) : coinsB C = false := by unfold Rm.coinsB; rw [decide_eq_false h]; simp
theorem coins_done {C : List Int} (h : C.length ≤ 6) (h2 : coinsTo C C.length = true) : coinsB C = true := by unfold Rm.coinsB; rw [h2, decide_eq_true h]; rfl

theorem rd_low {w w' : World} {ao : Option Addr} {l : List Int} (h : Lst.Rd w ao l) (hao : ∀ c, ao = some ⟨c, 0, none⟩ → c < w.heap.size) (hb : Below w.heap.size w w') : Lst.Rd w' ao l := by
  rcases h with h | ⟨g, rfl, hc⟩
  · exact .inl h
  · exact .inr ⟨g, rfl, fun j hj => (hb.cell (p := ⟨g, j, none⟩) (hao g rfl)).trans (hc j hj)⟩

/-- how the laying of the coins ends -/
def LedPost (C : List Int) (w : World) (e : Ending) (w' : World) : Prop :=
  (coinsB C = true ∧ e = .returned (.tuple #[.agg #[.int .i64 (leadI C 0), .int .i64 (leadI C 1), .int .i64 (leadI C 2), .int .i64 (leadI C 3), .int .i64 (leadI C 4), .int .i64 (leadI C 5), .int .i64 (leadI C 6)], .bool true]) ∧ Below w.heap.size w w') ∨
  (coinsB C = false ∧ e = .returned (.tuple #[.agg #[.int .i64 0, .int .i64 0, .int .i64 0, .int .i64 0, .int .i64 0, .int .i64 0, .int .i64 0], .bool false]) ∧ Below w.heap.size w w')

set_option maxHeartbeats 1600000 in
theorem leadersOf (ao : Option Addr) (cap : Nat) (C : List Int) (w : World) (hl : C.length ≤ 1048576) (hrd : Lst.Rd w ao C) (hao : ∀ c, ao = some ⟨c, 0, none⟩ → c < w.heap.size) :
    Calls Tryz.prog 40 #[.slice ao C.length cap] w (LedPost C w) := by
  by_cases h6 : C.length ≤ 6
  · have h6' : ¬ (6 : Int) < (C.length : Int) := by omega
    have P0 : Hid (RowI ((w.alloc (.cells #[.int .i64 0, .int .i64 0, .int .i64 0, .int .i64 0, .int .i64 0, .int .i64 0, .int .i64 0] 44)).alloc (.cells #[.int .i64 0, .int .i64 0, .int .i64 0, .int .i64 0, .int .i64 0, .int .i64 0, .int .i64 0] 44)) w.heap.size 7 (fun _ => 0) ∧
        RowI ((w.alloc (.cells #[.int .i64 0, .int .i64 0, .int .i64 0, .int .i64 0, .int .i64 0, .int .i64 0, .int .i64 0] 44)).alloc (.cells #[.int .i64 0, .int .i64 0, .int .i64 0, .int .i64 0, .int .i64 0, .int .i64 0, .int .i64 0] 44)) (w.heap.size + 1) 7 (own4 0) ∧
        Below w.heap.size w ((w.alloc (.cells #[.int .i64 0, .int .i64 0, .int .i64 0, .int .i64 0, .int .i64 0, .int .i64 0, .int .i64 0] 44)).alloc (.cells #[.int .i64 0, .int .i64 0, .int .i64 0, .int .i64 0, .int .i64 0, .int .i64 0, .int .i64 0] 44))) :=
      ⟨Nd.rowI_alloc (rowI_seven w _ (fun _ => 0)) _, by rw [own4_zero]; have := rowI_seven (w.alloc (.cells #[.int .i64 0, .int .i64 0, .int .i64 0, .int .i64 0, .int .i64 0, .int .i64 0, .int .i64 0] 44)) 44 (fun _ => 0); simpa using this, ((Below.refl _ w).alloc (Nat.le_refl _) _).alloc (by simp) _⟩
    go_enter Tryz.func40, Tryz.ntmps40
    go_wp2
    go_loopw [12] (fun i wr => ∃ j : Nat, j ≤ 7 ∧ i = .int .i64 j ∧ Hid (RowI wr w.heap.size 7 (fun _ => 0)) ∧ Hid (RowI wr (w.heap.size + 1) 7 (own4 j)) ∧ Hid (Below w.heap.size w wr)) (fun i _ => 7 - (intOf i).toNat)
    case atStart => exact ⟨0, by omega, rfl, P0.out.1, P0.out.2.1, P0.out.2.2⟩
    case round =>
      obtain ⟨j, hj, rfl, HR, HF, HB⟩ := hrel
      clear P0
      by_cases hlt : j < 7
      · have hlt' : (j : Int) < 7 := by omega
        have e1 := HF.out.rd j hlt
        have f1 := HF.out.fr j hlt
        have HR2 : Hid (RowI (wr.setCell ⟨w.heap.size + 1, j, none⟩ (.int .i64 ((j : Int) % 4))) w.heap.size 7 (fun _ => 0)) := Nd.rowI_other HR.out _ _ (by omega) _
        have HF2 : Hid (RowI (wr.setCell ⟨w.heap.size + 1, j, none⟩ (.int .i64 ((j : Int) % 4))) (w.heap.size + 1) 7 (own4 (j + 1))) := by
          show RowI _ _ _ _
          rw [← own4_step]; exact HF.out.put j hlt _
        have HB2 : Hid (Below w.heap.size w (wr.setCell ⟨w.heap.size + 1, j, none⟩ (.int .i64 ((j : Int) % 4)))) := HB.out.setCell (p := ⟨w.heap.size + 1, j, none⟩) (by simp) _
        clear HR HF HB
        generalize own4 j j = y at e1
        go_wp2
        go_roundw
        case rel => exact ⟨j + 1, by omega, by go_num, HR2, HF2, HB2⟩
        case measure => simp [intOf]; omega
      · obtain rfl : j = 7 := by omega
        have HF' : Hid (RowI wr (w.heap.size + 1) 7 (led C 0)) := by
          rw [led_zero]
          exact ⟨HF.out.lt, fun i hi => by rw [HF.out.rd i hi]; unfold own4; rw [if_pos hi], HF.out.fr⟩
        clear HF
        rw [show ((7 : Nat) : Int) = 7 from rfl]
        go_wp2
        go_loopw [22] (fun i wr => ∃ j : Nat, j ≤ C.length ∧ i = .int .i64 j ∧ Hid (coinsTo C j = true) ∧ Hid (RowI wr w.heap.size 7 (fun _ => 0)) ∧ Hid (RowI wr (w.heap.size + 1) 7 (led C j)) ∧ Hid (Below w.heap.size w wr)) (fun i _ => C.length - (intOf i).toNat)
        case atStart => exact ⟨0, by omega, rfl, rfl, HR, HF', HB⟩
        case round =>
          clear HR HF' HB
          obtain ⟨j, hj, rfl, HC, HR, HF, HB⟩ := hrel
          by_cases hlt : j < C.length
          · rcases hrd with hrd | ⟨b, rfl, hcell⟩
            · rw [hrd] at hlt; simp at hlt
            have hb0 := hao b rfl
            have cj := (HB.out.cell (p := ⟨b, j, none⟩) hb0).trans (hcell j hlt)
            have HS : Hid (coinsTo C (j + 1) = (coinsTo C j && Kn.in3 (C.getD j 0))) := Rm.coins_step C j
            have HN : Hid (Kn.in3 (C.getD j 0) = false → coinsB C = false) := Rm.coins_no C j hlt
            have HL : Hid ((fun i => if i = j then C.getD j 0 else led C j i) = led C (j + 1)) := led_step C j
            clear hcell hao
            generalize C.getD j 0 = y at cj HS HN HL
            cases hq : Kn.in3 y
            · have HT : Hid (coinsB C = false) := HN.out hq
              have HQ : Hid (Kn.in3 y = false) := hq
              obtain ⟨W7, hW7, k0, k1, k2, k3, k4, k5, k6, _, hB7⟩ := put7 HR.out w.heap.size (Nat.le_refl _) HB.out 0 0 0 0 0 0 0
              have HW : Hid (W7 = _) := hW7
              have q0 := HR.out.fr 0 (by omega)
              have q1 := HR.out.fr 1 (by omega)
              have q2 := HR.out.fr 2 (by omega)
              have q3 := HR.out.fr 3 (by omega)
              have q4 := HR.out.fr 4 (by omega)
              have q5 := HR.out.fr 5 (by omega)
              have q6 := HR.out.fr 6 (by omega)
              have r0 := HR.out.rd 0 (by omega)
              have r1 := HR.out.rd 1 (by omega)
              have r2 := HR.out.rd 2 (by omega)
              have r3 := HR.out.rd 3 (by omega)
              have r4 := HR.out.rd 4 (by omega)
              have r5 := HR.out.rd 5 (by omega)
              have r6 := HR.out.rd 6 (by omega)
              clear hq HS HN HL hW7
              go_wp2_with (go_at_call 64; refine (Kn.known _ _).mono ?_; rintro e w' ⟨rfl, rfl⟩; rw [HQ.out])
              rw [← HW.out]
              refine bodyPost_ret (v := .tuple #[.agg #[.int .i64 0, .int .i64 0, .int .i64 0, .int .i64 0, .int .i64 0, .int .i64 0, .int .i64 0], .bool false]) (by simp [results, Tryz.f40, go_sem, k0, k1, k2, k3, k4, k5, k6]) rfl ?_
              exact .inr ⟨HT.out, rfl, hB7⟩
            · have HT : Hid (coinsTo C (j + 1) = true) := by show _ = _; rw [HS.out, HC.out, hq]; rfl
              have HQ : Hid (Kn.in3 y = true) := hq
              have e1 := HF.out.rd j (by omega)
              have f1 := HF.out.fr j (by omega)
              have hj7 : (j : Int) < 7 := by omega
              have HR2 : Hid (RowI (wr.setCell ⟨w.heap.size + 1, j, none⟩ (.int .i64 y)) w.heap.size 7 (fun _ => 0)) := Nd.rowI_other HR.out _ _ (by omega) _
              have HF2 : Hid (RowI (wr.setCell ⟨w.heap.size + 1, j, none⟩ (.int .i64 y)) (w.heap.size + 1) 7 (led C (j + 1))) := by
                show RowI _ _ _ _
                rw [← HL.out]; exact HF.out.put j (by omega) _
              have HB2 : Hid (Below w.heap.size w (wr.setCell ⟨w.heap.size + 1, j, none⟩ (.int .i64 y))) := HB.out.setCell (p := ⟨w.heap.size + 1, j, none⟩) (by simp) _
              clear hq HS HN HC HR HF HB HL
              generalize led C j j = z at e1
              go_wp2_with (go_at_call 64; refine (Kn.known _ _).mono ?_; rintro e w' ⟨rfl, rfl⟩; rw [HQ.out])
              go_roundw
              case rel => exact ⟨j + 1, by omega, by go_num, HT, HR2, HF2, HB2⟩
              case measure => simp [intOf]; omega
          · obtain rfl : j = C.length := by omega
            have HT : Hid (coinsB C = true) := coins_done h6 HC.out
            have HF' : Hid (RowI wr (w.heap.size + 1) 7 (fun i => leadI C (i : Int))) := ⟨HF.out.lt, fun i hi => by rw [HF.out.rd i hi, led_all], HF.out.fr⟩
            clear HF HC
            have q0 := HR.out.fr 0 (by omega)
            have q1 := HR.out.fr 1 (by omega)
            have q2 := HR.out.fr 2 (by omega)
            have q3 := HR.out.fr 3 (by omega)
            have q4 := HR.out.fr 4 (by omega)
            have q5 := HR.out.fr 5 (by omega)
            have q6 := HR.out.fr 6 (by omega)
            have r0 := HR.out.rd 0 (by omega)
            have r1 := HR.out.rd 1 (by omega)
            have r2 := HR.out.rd 2 (by omega)
            have r3 := HR.out.rd 3 (by omega)
            have r4 := HR.out.rd 4 (by omega)
            have r5 := HR.out.rd 5 (by omega)
            have r6 := HR.out.rd 6 (by omega)
            have f0 := HF'.out.rd 0 (by omega)
            have f1 := HF'.out.rd 1 (by omega)
            have f2 := HF'.out.rd 2 (by omega)
            have f3 := HF'.out.rd 3 (by omega)
            have f4 := HF'.out.rd 4 (by omega)
            have f5 := HF'.out.rd 5 (by omega)
            have f6 := HF'.out.rd 6 (by omega)
            have HP : Hid (∀ x0 x1 x2 x3 x4 x5 x6 : Int, _) := put7 HR.out w.heap.size (Nat.le_refl _) HB.out
            clear HR HB HF' hrd hao
            go_wp2
            obtain ⟨W7, hW7, k0, k1, k2, k3, k4, k5, k6, _, hB7⟩ := HP.out (leadI C 0) (leadI C 1) (leadI C 2) (leadI C 3) (leadI C 4) (leadI C 5) (leadI C 6)
            rw [← hW7]
            refine bodyPost_ret (v := .tuple #[.agg #[.int .i64 (leadI C 0), .int .i64 (leadI C 1), .int .i64 (leadI C 2), .int .i64 (leadI C 3), .int .i64 (leadI C 4), .int .i64 (leadI C 5), .int .i64 (leadI C 6)], .bool true]) (by simp [results, Tryz.f40, go_sem, k0, k1, k2, k3, k4, k5, k6]) rfl ?_
            exact .inl ⟨HT.out, rfl, hB7⟩
  · have HT : Hid (coinsB C = false) := coins_long h6
    have h6' : (6 : Int) < (C.length : Int) := by omega
    clear hrd hao
    go_enter Tryz.func40, Tryz.ntmps40
    go_wp2
    refine bodyPost_ret (v := .tuple #[.agg #[.int .i64 0, .int .i64 0, .int .i64 0, .int .i64 0, .int .i64 0, .int .i64 0, .int .i64 0], .bool false]) (by simp [results, Tryz.f40, go_sem]) rfl ?_
    exact .inr ⟨HT.out, rfl, (Below.refl _ w).alloc (Nat.le_refl _) _⟩

/-- what the program's leads asks -/
def ledB (L : List K) (f : Nat → Int) (k : Int) : Bool := (decide (0 ≤ k) && decide (k < (L.length : Int))) && (decide ((at' L k.toNat).round % 3 = 0) && decide ((at' L k.toNat).hand = f ((at' L k.toNat).round / 3).toNat))
theorem ledB_leads {L : List K} (hlc : laceB L = true) {C : List Int} (hc : coinsB C = true) (f : Nat → Int) (hf : ∀ i, i < 7 → f i = leadI C (i : Int)) (k : Int) : ledB L f k = leadsB L C k := by
  unfold ledB leadsB leadK
  rw [Db.isB_lace hlc, hc]
  by_cases hk : 0 ≤ k ∧ k < (L.length : Int)
  · obtain ⟨p, rfl⟩ := Int.eq_ofNat_of_zero_le hk.1
    have hrb := Lc.ok_round (Lc.can_ok (Lc.lace_upTo hlc p (by omega)))
    rw [Int.toNat_natCast] at *
    rw [hf _ (by omega), show ((((at' L p).round / 3).toNat : Nat) : Int) = (at' L p).round / 3 by omega]
    simp
  · have : (decide (0 ≤ k) && decide (k < (L.length : Int))) = false := by
      rw [Bool.eq_false_iff]; intro h; rw [Bool.and_eq_true, decide_eq_true_eq, decide_eq_true_eq] at h; exact hk h
    rw [this]; rfl

theorem beginsWave (r : Int) (w : World) (h0 : 0 ≤ r) (h1 : r ≤ 1000) : Calls Tryz.prog 83 #[.int .i64 r] w fun e w' => e = .returned (.bool (decide (r % 3 = 0))) ∧ w = w' := by
  have HD : Hid ((r % 3 == 0) = decide (r % 3 = 0)) := rfl
  go_enter Tryz.func83, Tryz.ntmps83
  go_wp2
  go_ret
  exact ⟨by rw [← HD.out]; rfl, rfl⟩

theorem waveOf (r : Int) (w : World) (h0 : 0 ≤ r) (h1 : r ≤ 1000) : Calls Tryz.prog 84 #[.int .i64 r] w fun e w' => e = .returned (.int .i64 (r / 3)) ∧ w = w' := by
  go_enter Tryz.func84, Tryz.ntmps84
  go_wp2
  go_ret
  exact ⟨rfl, rfl⟩

set_option maxHeartbeats 1600000 in
theorem leads (g off cap : Nat) (L : List K) (f : Nat → Int) (k : Int) (w : World) (hlc : laceB L = true) (hg : g < w.heap.size) (hr : RdK w (some ⟨g, off, none⟩) L) :
    Calls Tryz.prog 66 #[.slice (some ⟨g, off, none⟩) L.length cap, .agg #[.int .i64 (f 0), .int .i64 (f 1), .int .i64 (f 2), .int .i64 (f 3), .int .i64 (f 4), .int .i64 (f 5), .int .i64 (f 6)], .int .i64 k] w fun e w' => e = .returned (.bool (ledB L f k)) ∧ Below w.heap.size w w' := by
  have h60 := ((Lc.lace_iff L).1 hlc).1
  have P0 : Hid (Below w.heap.size w (w.alloc (.cells #[.int .i64 (f 0), .int .i64 (f 1), .int .i64 (f 2), .int .i64 (f 3), .int .i64 (f 4), .int .i64 (f 5), .int .i64 (f 6)] 44)) ∧ RowI (w.alloc (.cells #[.int .i64 (f 0), .int .i64 (f 1), .int .i64 (f 2), .int .i64 (f 3), .int .i64 (f 4), .int .i64 (f 5), .int .i64 (f 6)] 44)) w.heap.size 7 f) := ⟨(Below.refl _ _).alloc (Nat.le_refl _) _, rowI_seven w _ f⟩
  have HA : Hid (∀ W : World, Calls Tryz.prog 21 #[.int .i64 (2 ^ L.length - 1), .int .i64 k] W fun e w' => e = .returned (.bool (decide (0 ≤ k) && decide (k < (L.length : Int)))) ∧ W = w') := fun W => by
    have := Base.has (2 ^ L.length - 1) k W
    rw [Sg.all_has h60 k] at this
    exact this
  by_cases hk : 0 ≤ k ∧ k < (L.length : Int)
  · have HI : Hid ((decide (0 ≤ k) && decide (k < (L.length : Int))) = true) := by show _ = _; rw [decide_eq_true hk.1, decide_eq_true hk.2]; rfl
    have HT : Hid (ledB L f k = (decide ((at' L k.toNat).round % 3 = 0) && decide ((at' L k.toNat).hand = f ((at' L k.toNat).round / 3).toNat))) := by show _ = _; unfold ledB; rw [HI.out]; rfl
    rw [HI.out] at HA
    obtain ⟨p, rfl⟩ := Int.eq_ofNat_of_zero_le hk.1
    have hp : p < L.length := by omega
    rw [Int.toNat_natCast] at HT
    have hrb := Lc.ok_round (Lc.can_ok (Lc.lace_upTo hlc p hp))
    obtain ⟨_, hcs⟩ := hr.on p hp
    have hcs' := hcs.below P0.out.1 hg
    obtain ⟨c0, c1, _, _⟩ := hcs'
    clear HI hk hlc hcs hr
    generalize at' L p = kk at c0 c1 HT hrb
    obtain ⟨kh, kr, kf, kw⟩ := kk
    dsimp only at c0 c1 HT hrb
    have HBW : Hid (∀ W : World, Calls Tryz.prog 83 #[.int .i64 kr] W fun e w' => e = .returned (.bool (decide (kr % 3 = 0))) ∧ W = w') := fun W => beginsWave kr W hrb.1 (by omega)
    have HWO : Hid (∀ W : World, Calls Tryz.prog 84 #[.int .i64 kr] W fun e w' => e = .returned (.int .i64 (kr / 3)) ∧ W = w') := fun W => waveOf kr W hrb.1 (by omega)
    by_cases hz : kr % 3 = 0
    · obtain ⟨q, hq⟩ := Int.eq_ofNat_of_zero_le (show 0 ≤ kr / 3 by omega)
      have hq7 : q < 7 := by omega
      have hq7' : (q : Int) < 7 := by omega
      rw [hq] at HWO HT
      rw [decide_eq_true hz] at HBW HT
      rw [Int.toNat_natCast, Bool.true_and] at HT
      have HE : Hid ((kh == f q) = decide (kh = f q)) := rfl
      clear hz hrb hq
      have HP := P0
      clear P0
      go_enter Tryz.func66, Tryz.ntmps66
      go_wp2_with fail
      generalize w.alloc (.cells #[.int .i64 (f 0), .int .i64 (f 1), .int .i64 (f 2), .int .i64 (f 3), .int .i64 (f 4), .int .i64 (f 5), .int .i64 (f 6)] 44) = V at HP c0 c1 ⊢
      have HB : Hid (Below w.heap.size w V) := HP.out.1
      have cq := HP.out.2.rd q hq7
      clear HP
      generalize f q = y at cq HT HE
      go_quiet (first | (go_at_call 20; exact (Lc.all _ _ _ _ h60).mono fun _ _ h => ⟨h.1, _, h.2.symm⟩) | (go_at_call 21; exact (HA.out _).mono fun _ _ h => ⟨h.1, _, h.2.symm⟩) | (go_at_call 83; exact (HBW.out _).mono fun _ _ h => ⟨h.1, _, h.2.symm⟩) | (go_at_call 84; exact (HWO.out _).mono fun _ _ h => ⟨h.1, _, h.2.symm⟩))
      go_wp2
      go_ret
      exact ⟨by rw [HT.out, ← HE.out]; rfl, Db.below_drewN HB.out _⟩
    · rw [decide_eq_false hz] at HBW HT
      rw [Bool.false_and] at HT
      have HP := P0
      clear P0 hz hrb HWO
      go_enter Tryz.func66, Tryz.ntmps66
      go_wp2_with fail
      generalize w.alloc (.cells #[.int .i64 (f 0), .int .i64 (f 1), .int .i64 (f 2), .int .i64 (f 3), .int .i64 (f 4), .int .i64 (f 5), .int .i64 (f 6)] 44) = V at HP c0 c1 ⊢
      have HB : Hid (Below w.heap.size w V) := HP.out.1
      clear HP
      go_quiet (first | (go_at_call 20; exact (Lc.all _ _ _ _ h60).mono fun _ _ h => ⟨h.1, _, h.2.symm⟩) | (go_at_call 21; exact (HA.out _).mono fun _ _ h => ⟨h.1, _, h.2.symm⟩) | (go_at_call 83; exact (HBW.out _).mono fun _ _ h => ⟨h.1, _, h.2.symm⟩))
      go_wp2
      go_ret
      exact ⟨by rw [HT.out]; rfl, Db.below_drewN HB.out _⟩
  · have HI : Hid ((decide (0 ≤ k) && decide (k < (L.length : Int))) = false) := by
      show _ = _
      rw [Bool.eq_false_iff]; intro h; rw [Bool.and_eq_true, decide_eq_true_eq, decide_eq_true_eq] at h; exact hk h
    have HT : Hid (ledB L f k = false) := by show _ = _; unfold ledB; rw [HI.out]; rfl
    rw [HI.out] at HA
    clear HI hk hlc hr
    go_enter Tryz.func66, Tryz.ntmps66
    go_wp2_with fail
    generalize w.alloc (.cells #[.int .i64 (f 0), .int .i64 (f 1), .int .i64 (f 2), .int .i64 (f 3), .int .i64 (f 4), .int .i64 (f 5), .int .i64 (f 6)] 44) = V at P0 ⊢
    have HB : Hid (Below w.heap.size w V) := P0.out.1
    clear P0
    go_quiet (first | (go_at_call 20; exact (Lc.all _ _ _ _ h60).mono fun _ _ h => ⟨h.1, _, h.2.symm⟩) | (go_at_call 21; exact (HA.out _).mono fun _ _ h => ⟨h.1, _, h.2.symm⟩))
    go_wp2
    go_ret
    exact ⟨by rw [HT.out]; rfl, Db.below_drewN HB.out _⟩

end Ch
end Go.Proofs.YthdjfmndakeaiaaGreat

namespace Go.Proofs.YthdjfmndakeaiaaGreat
open Go.RowKit
set_option maxRecDepth 100000
namespace Ak
open Kn (K okK)
open Bit (bit withB memTo)
open Lc (at' RdK WordsOk laceB setB)
open Sg (isB bel)

/-- those of a list that are wanted, as a set -/
def onlyF (P : Int → Bool) (l : List Int) : Int := l.foldl (fun x a => if P a then withB x a.toNat else x) 0

theorem onlyF_snoc (P : Int → Bool) (l : List Int) (a : Int) : onlyF P (l ++ [a]) = if P a then withB (onlyF P l) a.toNat else onlyF P l := by
  unfold onlyF; rw [List.foldl_append]; rfl

theorem onlyF_bits (P : Int → Bool) (l : List Int) (hl : ∀ a ∈ l, 0 ≤ a ∧ a < 60) : (0 ≤ onlyF P l ∧ onlyF P l < 1152921504606846976) ∧ ∀ j : Nat, bit (onlyF P l) j = true ↔ ((j : Int) ∈ l ∧ P (j : Int) = true) := by
  suffices H : ∀ (l : List Int) (x : Int), (∀ a ∈ l, 0 ≤ a ∧ a < 60) → (0 ≤ x ∧ x < 1152921504606846976) →
      (0 ≤ l.foldl (fun x a => if P a then withB x a.toNat else x) x ∧ l.foldl (fun x a => if P a then withB x a.toNat else x) x < 1152921504606846976) ∧
      ∀ j : Nat, bit (l.foldl (fun x a => if P a then withB x a.toNat else x) x) j = true ↔ (bit x j = true ∨ ((j : Int) ∈ l ∧ P (j : Int) = true)) by
    have := H l 0 hl ⟨Int.le_refl 0, by decide⟩
    refine ⟨this.1, fun j => ?_⟩
    rw [show onlyF P l = l.foldl (fun x a => if P a then withB x a.toNat else x) 0 from rfl, this.2 j, Lc.bit_zero]
    simp
  intro l
  induction l with
  | nil => intro x _ hx; exact ⟨hx, fun j => by simp⟩
  | cons a l ih =>
    intro x hl hx
    have ha := hl a (by simp)
    obtain ⟨p, rfl⟩ := Int.eq_ofNat_of_zero_le ha.1
    simp only [List.foldl_cons]
    cases hn : P (p : Int)
    · rw [if_neg (by simp)]
      have := ih x (fun a h => hl a (by simp [h])) hx
      refine ⟨this.1, fun j => ?_⟩
      rw [this.2 j]
      constructor
      · rintro (h | ⟨h1, h2⟩)
        · exact .inl h
        · exact .inr ⟨by simp [h1], h2⟩
      · rintro (h | ⟨h1, h2⟩)
        · exact .inl h
        · rcases List.mem_cons.1 h1 with e | e
          · rw [e, hn] at h2; exact Bool.noConfusion h2
          · exact .inr ⟨e, h2⟩
    · rw [if_pos rfl, Int.toNat_natCast]
      have := ih (withB x p) (fun a h => hl a (by simp [h])) (Bit.withB_bd x hx.1 hx.2 p (by omega))
      refine ⟨this.1, fun j => ?_⟩
      rw [this.2 j, Bit.bit_withB x hx.1]
      constructor
      · rintro (h | ⟨h1, h2⟩)
        · rw [Bool.or_eq_true, decide_eq_true_eq] at h
          rcases h with h | h
          · subst h; exact .inr ⟨by simp, hn⟩
          · exact .inl h
        · exact .inr ⟨by simp [h1], h2⟩
      · rintro (h | ⟨h1, h2⟩)
        · exact .inl (by rw [h]; simp)
        · rcases List.mem_cons.1 h1 with e | e
          · exact .inl (by rw [Bool.or_eq_true, decide_eq_true_eq]; exact .inl (by omega))
          · exact .inr ⟨e, h2⟩

theorem mem_memI {s : Int} {x : Int} (h : x ∈ Memb.memI s) : 0 ≤ x ∧ x < 60 := by
  unfold Memb.memI at h
  split at h
  · obtain ⟨j, hj, rfl, _⟩ := (Bit.mem_memTo s 60 x).1 h
    omega
  · exact absurd h (by simp)

theorem mem_bit {s : Int} (q0 : 0 ≤ s) (q1 : s < 1152921504606846976) (j : Nat) : (j : Int) ∈ Memb.memI s ↔ bit s j = true := by
  unfold Memb.memI
  rw [(Base.okB_iff s).2 ⟨q0, q1⟩, if_pos rfl, Bit.mem_memTo]
  constructor
  · rintro ⟨i, _, e, h⟩
    obtain rfl : j = i := by omega
    exact h
  · intro h
    refine ⟨j, ?_, rfl, h⟩
    apply Classical.byContradiction
    intro hn
    rw [Lc.bit_hi s 60 q0 (by omega) j (by omega)] at h
    exact Bool.noConfusion h

theorem bit_all {n : Nat} (hn : n ≤ 60) (k : Nat) : bit (2 ^ n - 1) k = decide (k < n) := by
  have hp := Lc.pow60 n hn
  have e : ((2 : Int) ^ n - 1) = ((2 ^ n - 1 : Nat) : Int) := by rw [Int.ofNat_sub Nat.one_le_two_pow]; simp
  rw [Bit.bit_testBit _ (by omega), e, Int.toNat_natCast, Nat.testBit_two_pow_sub_one]

theorem two_box (w : World) (k : Int) (f : Value) (t u : TypeId) : Below w.heap.size w ((w.alloc (.cells #[.int .i64 k] t)).alloc (.cells #[f] u)) ∧ ((w.alloc (.cells #[.int .i64 k] t)).alloc (.cells #[f] u)).cell? ⟨w.heap.size, 0, none⟩ = some (.int .i64 k) ∧ ((w.alloc (.cells #[.int .i64 k] t)).alloc (.cells #[f] u)).cell? ⟨w.heap.size + 1, 0, none⟩ = some f ∧ w.heap.size + 1 < ((w.alloc (.cells #[.int .i64 k] t)).alloc (.cells #[f] u)).heap.size := by
  have c1 := Sg.boxNew (w.alloc (.cells #[.int .i64 k] t)) f u
  simp only [World.size_alloc] at c1
  exact ⟨((Below.refl _ _).alloc (Nat.le_refl _) _).alloc (by simp) _, Sg.boxCell _ (Sg.boxNew w (.int .i64 k) t).1, c1.1, by simp⟩

/-- the answer, or the one fixed answer -/
def askI (L : List K) (s k A : Int) : Int := if setB L s && isB L k then A else -1

end Ak
end Go.Proofs.YthdjfmndakeaiaaGreat

namespace Go.Proofs.YthdjfmndakeaiaaGreat
open Go.RowKit
set_option maxRecDepth 100000
namespace Nd
open Kn (K okK)
open Bit (bit withB memTo)
open Lc (at' RdK WordsOk laceB setB amongI HandsOk)
open Sg (isB bel belows seesB metI)
open Db (dblN dblS doubledB)

theorem infoSet : (Tryz.prog.info? 47).map (fun i => (i.zero, i.size, i.bytes)) = some (some (.int .i64 0), 1, 8) := by kernel_rfl

/-- two rows of four hands are compared -/
theorem eqHand (a0 a1 a2 a3 b0 b1 b2 b3 : Int) (W : World) : (binOp .eql 149 (.agg #[.int .i64 a0, .int .i64 a1, .int .i64 a2, .int .i64 a3]) (.agg #[.int .i64 b0, .int .i64 b1, .int .i64 b2, .int .i64 b3])).run Tryz.prog W = .ok (.bool (a0 == b0 && (a1 == b1 && (a2 == b2 && a3 == b3)))) W := by
  obtain ⟨i0, hi, hz0, hz1, hz2⟩ := info_parts infoSet
  rw [run_eql_struct, run_equalIn_array W 9999 _ _ (by kernel_rfl : Tryz.prog.underlying 149 = some (.array 4 47)) hi]
  rw [show List.range 4 = [0, 1, 2, 3] from rfl, show Tryz.prog.cellsOf 47 = 1 from by kernel_rfl]
  have hu : Tryz.prog.underlying 47 = some (.int .i64) := by kernel_rfl
  have hp : ∀ (xs : Array Value) (i : Nat) (v : Value), xs[i]? = some v → (part 47 xs i).run Tryz.prog W = .ok v W := fun xs i v h => by
    simp [part, isAgg, run_underlying hu, h]
  have he : ∀ x y : Int, (Op.equalIn 9999 47 (.int .i64 x) (.int .i64 y)).run Tryz.prog W = .ok (x == y) W := fun x y => run_equalIn_int W 9998 47 .i64 .i64 x y hu
  simp only [Op.eqItems, Sem.run_bind, Nat.mul_one]
  rw [hp #[.int .i64 a0, .int .i64 a1, .int .i64 a2, .int .i64 a3] 0 (.int .i64 a0) rfl, Result.andThen_ok, hp #[.int .i64 b0, .int .i64 b1, .int .i64 b2, .int .i64 b3] 0 (.int .i64 b0) rfl, Result.andThen_ok, he, Result.andThen_ok]
  by_cases h0 : a0 = b0
  · rw [show (a0 == b0) = true from by simpa using h0]
    simp only [Bool.not_true, Bool.false_eq_true, if_false, Sem.run_bind, Bool.true_and]
    rw [hp #[.int .i64 a0, .int .i64 a1, .int .i64 a2, .int .i64 a3] 1 (.int .i64 a1) rfl, Result.andThen_ok, hp #[.int .i64 b0, .int .i64 b1, .int .i64 b2, .int .i64 b3] 1 (.int .i64 b1) rfl, Result.andThen_ok, he, Result.andThen_ok]
    by_cases h1 : a1 = b1
    · rw [show (a1 == b1) = true from by simpa using h1]
      simp only [Bool.not_true, Bool.false_eq_true, if_false, Sem.run_bind, Bool.true_and]
      rw [hp #[.int .i64 a0, .int .i64 a1, .int .i64 a2, .int .i64 a3] 2 (.int .i64 a2) rfl, Result.andThen_ok, hp #[.int .i64 b0, .int .i64 b1, .int .i64 b2, .int .i64 b3] 2 (.int .i64 b2) rfl, Result.andThen_ok, he, Result.andThen_ok]
      by_cases h2 : a2 = b2
      · rw [show (a2 == b2) = true from by simpa using h2]
        simp only [Bool.not_true, Bool.false_eq_true, if_false, Sem.run_bind, Bool.true_and]
        rw [hp #[.int .i64 a0, .int .i64 a1, .int .i64 a2, .int .i64 a3] 3 (.int .i64 a3) rfl, Result.andThen_ok, hp #[.int .i64 b0, .int .i64 b1, .int .i64 b2, .int .i64 b3] 3 (.int .i64 b3) rfl, Result.andThen_ok, he, Result.andThen_ok]
        cases (a3 == b3) <;> simp
      · rw [show (a2 == b2) = false from by simpa using h2]; simp
    · rw [show (a1 == b1) = false from by simpa using h1]; simp
  · rw [show (a0 == b0) = false from by simpa using h0]; simp

/-- without all that is in d no hand has less: then nothing of it is in x -/
theorem hands_same {L : List K} (hl : laceB L = true) (x d : Int) (h0 : 0 ≤ x) (h1 : x < 1152921504606846976) (hx : ∀ i, bit x i = true → i < L.length) (h2 : 0 ≤ d) (h3 : d < 1152921504606846976) :
    (hf L x 0 L.length == hf L (bits .andNot .i64 x d) 0 L.length && (hf L x 1 L.length == hf L (bits .andNot .i64 x d) 1 L.length && (hf L x 2 L.length == hf L (bits .andNot .i64 x d) 2 L.length && hf L x 3 L.length == hf L (bits .andNot .i64 x d) 3 L.length))) = (bits .and .i64 x d == 0) := by
  have h60 := ((Lc.lace_iff L).1 hl).1
  have hz := Lc.and_zero_iff x d h0 (by omega) h2 (by omega)
  rw [Bool.eq_iff_iff]
  simp only [Bool.and_eq_true, beq_iff_eq]
  constructor
  · rintro ⟨e0, e1, e2, e3⟩
    apply Classical.byContradiction
    intro hne
    obtain ⟨i, hi, hd⟩ := hz.1 hne
    have hil := hx i hi
    have hh := Lc.lace_hands hl _ (Lc.at_mem L i hil)
    have key : ∀ h : Int, (at' L i).hand = h → hf L x h L.length = hf L (bits .andNot .i64 x d) h L.length → False := fun h hm e => by
      have q1 : bit (hf L x h L.length) i = true := by
        unfold hf
        rw [Lc.bit_among _ _ _ _ h60, decide_eq_true hil, hi]; simp [hm]
      rw [e] at q1
      unfold hf at q1
      rw [Lc.bit_among _ _ _ _ h60, Sg.bit_andNot x d h0 h1 h2 h3, hd] at q1
      simp at q1
    have hc : (at' L i).hand = 0 ∨ (at' L i).hand = 1 ∨ (at' L i).hand = 2 ∨ (at' L i).hand = 3 := by omega
    rcases hc with h | h | h | h
    · exact key 0 h e0
    · exact key 1 h e1
    · exact key 2 h e2
    · exact key 3 h e3
  · intro he
    have hb := Sg.andNot_bd' x d h0 h1
    have : bits .andNot .i64 x d = x := Lc.eq_of_bits _ _ hb.1 h0 fun i => by
      rw [Sg.bit_andNot x d h0 h1 h2 h3]
      cases hxi : bit x i
      · rfl
      · cases hdi : bit d i
        · rfl
        · exact absurd he (hz.2 ⟨i, hxi, hdi⟩)
    rw [this]
    exact ⟨rfl, rfl, rfl, rfl⟩

/-- all that speaks against b -/
def agI (L : List K) (b : Int) : Int := if isB L b then dblS L b.toNat L.length else 0

theorem ag_bd {L : List K} (h60 : L.length ≤ 60) (b : Int) : 0 ≤ agI L b ∧ agI L b < 1152921504606846976 := by
  unfold agI
  split
  · exact Db.dblS_bd L _ _ h60
  · exact ⟨Int.le_refl 0, by decide⟩

/-- what a nod asks -/
theorem nods_sees {L : List K} {a b : Int} (hs : seesB L a b = true) : nodsB L a b = (bits .and .i64 (metI L a) (agI L b) == 0) := by
  unfold Sg.seesB at hs
  simp only [Bool.and_eq_true] at hs
  obtain ⟨ha, hb, hbit⟩ := hs
  obtain ⟨a0, a1, _⟩ := Sg.isB_parts ha
  unfold nodsB nodN agI Sg.metI
  rw [ha, hb, hbit, if_pos ⟨a0, a1⟩]
  rfl
theorem nods_blind {L : List K} {a b : Int} (hs : seesB L a b = false) : nodsB L a b = false := by
  unfold Sg.seesB at hs
  unfold nodsB nodN
  cases ha : isB L a
  · rfl
  · cases hb : isB L b
    · rfl
    · rw [ha, hb] at hs
      simp only [Bool.true_and] at hs
      rw [hs]; rfl

theorem met_bd {L : List K} (h60 : L.length ≤ 60) (a : Int) : 0 ≤ metI L a ∧ metI L a < 1152921504606846976 := by
  unfold Sg.metI
  split
  · exact Sg.bel_bd L _ (by omega)
  · exact ⟨Int.le_refl 0, by decide⟩
theorem met_in {L : List K} (hl : laceB L = true) (a : Int) (i : Nat) (h : bit (metI L a) i = true) : i < L.length := by
  unfold Sg.metI at h
  split at h
  · rename_i hc
    apply Classical.byContradiction
    intro hn
    rw [Db.bel_hi hl (by omega : a.toNat < L.length) (by omega)] at h
    exact Bool.noConfusion h
  · rw [Lc.bit_zero] at h; exact Bool.noConfusion h

/-- those of a list that nod to b, as a set -/
def nodF (L : List K) (b : Int) (l : List Int) : Int := l.foldl (fun x a => if nodsB L a b then withB x a.toNat else x) 0

theorem nodF_snoc (L : List K) (b : Int) (l : List Int) (a : Int) : nodF L b (l ++ [a]) = if nodsB L a b then withB (nodF L b l) a.toNat else nodF L b l := by
  unfold nodF; rw [List.foldl_append]; rfl

theorem nodF_bits (L : List K) (b : Int) (l : List Int) (hl : ∀ a ∈ l, 0 ≤ a ∧ a < 60) : (0 ≤ nodF L b l ∧ nodF L b l < 1152921504606846976) ∧ ∀ j : Nat, bit (nodF L b l) j = true ↔ ((j : Int) ∈ l ∧ nodsB L (j : Int) b = true) := by
  suffices H : ∀ (l : List Int) (x : Int), (∀ a ∈ l, 0 ≤ a ∧ a < 60) → (0 ≤ x ∧ x < 1152921504606846976) →
      (0 ≤ l.foldl (fun x a => if nodsB L a b then withB x a.toNat else x) x ∧ l.foldl (fun x a => if nodsB L a b then withB x a.toNat else x) x < 1152921504606846976) ∧
      ∀ j : Nat, bit (l.foldl (fun x a => if nodsB L a b then withB x a.toNat else x) x) j = true ↔ (bit x j = true ∨ ((j : Int) ∈ l ∧ nodsB L (j : Int) b = true)) by
    have := H l 0 hl ⟨Int.le_refl 0, by decide⟩
    refine ⟨this.1, fun j => ?_⟩
    rw [show nodF L b l = l.foldl (fun x a => if nodsB L a b then withB x a.toNat else x) 0 from rfl, this.2 j, Lc.bit_zero]
    simp
  intro l
  induction l with
  | nil => intro x _ hx; exact ⟨hx, fun j => by simp⟩
  | cons a l ih =>
    intro x hl hx
    have ha := hl a (by simp)
    obtain ⟨p, rfl⟩ := Int.eq_ofNat_of_zero_le ha.1
    simp only [List.foldl_cons]
    cases hn : nodsB L (p : Int) b
    · rw [if_neg (by simp)]
      have := ih x (fun a h => hl a (by simp [h])) hx
      refine ⟨this.1, fun j => ?_⟩
      rw [this.2 j]
      constructor
      · rintro (h | ⟨h1, h2⟩)
        · exact .inl h
        · exact .inr ⟨by simp [h1], h2⟩
      · rintro (h | ⟨h1, h2⟩)
        · exact .inl h
        · rcases List.mem_cons.1 h1 with e | e
          · rw [e, hn] at h2; exact Bool.noConfusion h2
          · exact .inr ⟨e, h2⟩
    · rw [if_pos rfl, Int.toNat_natCast]
      have := ih (withB x p) (fun a h => hl a (by simp [h])) (Bit.withB_bd x hx.1 hx.2 p (by omega))
      refine ⟨this.1, fun j => ?_⟩
      rw [this.2 j, Bit.bit_withB x hx.1]
      constructor
      · rintro (h | ⟨h1, h2⟩)
        · rw [Bool.or_eq_true, decide_eq_true_eq] at h
          rcases h with h | h
          · subst h; exact .inr ⟨by simp, hn⟩
          · exact .inl h
        · exact .inr ⟨by simp [h1], h2⟩
      · rintro (h | ⟨h1, h2⟩)
        · exact .inl (by rw [h]; simp)
        · rcases List.mem_cons.1 h1 with e | e
          · exact .inl (by rw [Bool.or_eq_true, decide_eq_true_eq]; exact .inl (by omega))
          · exact .inr ⟨e, h2⟩

theorem mem_memI {s : Int} {x : Int} (h : x ∈ Memb.memI s) : 0 ≤ x ∧ x < 60 := by
  unfold Memb.memI at h
  split at h
  · obtain ⟨j, hj, rfl, _⟩ := (Bit.mem_memTo s 60 x).1 h
    omega
  · exact absurd h (by simp)

theorem bit_and (a b : Int) (h1 : 0 ≤ a) (h2 : a < 9223372036854775808) (h3 : 0 ≤ b) (h4 : b < 9223372036854775808) (i : Nat) : bit (bits .and .i64 a b) i = (bit a i && bit b i) := by
  rw [Lc.i64_and a b h1 h2 h3 h4, Bit.bit_testBit _ (by omega), Int.toNat_natCast, Nat.testBit_and, ← Bit.bit_testBit _ h1, ← Bit.bit_testBit _ h3]

/-- of a set of the lace: the document's Nodders -/
theorem nodF_set {L : List K} {s b : Int} (hs : setB L s = true) (hb : isB L b = true) : nodF L b (Memb.memI s) = noddersI L s b := by
  obtain ⟨hl, q0, q1, qd, _, _⟩ := Lc.setB_parts hs
  have h60 := ((Lc.lace_iff L).1 hl).1
  have hF := nodF_bits L b (Memb.memI s) (fun a h => mem_memI h)
  have hN := nodS_bd L b.toNat L.length h60
  unfold noddersI
  rw [hs, hb]
  simp only [Bool.and_self, if_true]
  refine Lc.eq_of_bits _ _ hF.1.1 (by rw [Lc.i64_and s _ q0 (by omega) hN.1 (by omega)]; omega) fun j => ?_
  rw [Bool.eq_iff_iff, hF.2 j, bit_and s _ q0 (by omega) hN.1 (by omega), bit_nodS L b.toNat L.length h60, Bool.and_eq_true, Bool.and_eq_true, decide_eq_true_eq]
  have hj : (j : Int) ∈ Memb.memI s ↔ bit s j = true := by
    unfold Memb.memI
    rw [(Base.okB_iff s).2 ⟨q0, q1⟩, if_pos rfl]
    rw [Bit.mem_memTo]
    constructor
    · rintro ⟨i, _, e, h⟩
      obtain rfl : j = i := by omega
      exact h
    · intro h
      refine ⟨j, ?_, rfl, h⟩
      apply Classical.byContradiction
      intro hn
      rw [Lc.bit_hi s L.length q0 qd j (by omega)] at h
      exact Bool.noConfusion h
  rw [hj]
  constructor
  · rintro ⟨h1, h2⟩
    unfold nodsB at h2
    rw [Bool.and_eq_true, Bool.and_eq_true] at h2
    obtain ⟨_, p1, _⟩ := Sg.isB_parts h2.1
    exact ⟨h1, by omega, by have := h2.2.2; rwa [Int.toNat_natCast] at this⟩
  · rintro ⟨h1, h2, h3⟩
    refine ⟨h1, ?_⟩
    unfold nodsB
    rw [hb, Int.toNat_natCast, h3, Db.isB_lace hl]
    simp; omega

/-- of one alone: the document's Nods -/
theorem nodF_one (L : List K) (h60 : L.length ≤ 60) (a b : Int) : (Base.okB (nodF L b (Memb.memI (Sg.oneI a))) && (Base.inB a && bit (nodF L b (Memb.memI (Sg.oneI a))) a.toNat)) = nodsB L a b := by
  have hF := nodF_bits L b (Memb.memI (Sg.oneI a)) (fun a h => mem_memI h)
  rw [(Base.okB_iff _).2 hF.1, Bool.true_and]
  by_cases h : 0 ≤ a ∧ a < 60
  · rw [(Base.inB_iff a).2 h, Bool.true_and]
    obtain ⟨p, rfl⟩ := Int.eq_ofNat_of_zero_le h.1
    rw [Int.toNat_natCast, Bool.eq_iff_iff, hF.2 p]
    refine ⟨fun q => q.2, fun q => ⟨?_, q⟩⟩
    unfold Memb.memI
    rw [(Base.okB_iff _).2 (Sg.oneI_bd _), if_pos rfl]
    exact (Bit.mem_memTo _ _ _).2 ⟨p, by omega, rfl, (Sg.bit_oneI _ p).2 ⟨rfl, by omega⟩⟩
  · have : Base.inB a = false := by
      cases hb : Base.inB a
      · rfl
      · exact absurd ((Base.inB_iff a).1 hb) h
    rw [this, Bool.false_and]
    symm
    rw [Bool.eq_false_iff]
    intro hn
    unfold nodsB at hn
    rw [Bool.and_eq_true] at hn
    obtain ⟨a0, a1, _⟩ := Sg.isB_parts hn.1
    exact h ⟨a0, by omega⟩

theorem not_dbl {L : List K} {a : Int} (ha : isB L a = false) (b : Int) : doubledB L a b = false := by unfold Db.doubledB; rw [ha]; rfl

set_option maxHeartbeats 1600000 in
theorem doublesAny (g off cap : Nat) (L : List K) (a : Int) (w : World) (hlc : laceB L = true) (hg : g < w.heap.size) (hr : RdK w (some ⟨g, off, none⟩) L) :
    Calls Tryz.prog 108 #[.slice (some ⟨g, off, none⟩) L.length cap, .int .i64 a] w fun e w' => e = .returned (.int .i64 (agI L a)) ∧ Below w.heap.size w w' := by
  cases ha : isB L a
  · have HT : Hid (agI L a = 0) := by show _ = _; unfold agI; rw [ha]; rfl
    have h60 := ((Lc.lace_iff L).1 hlc).1
    rw [HT.out]
    go_enter Tryz.func108, Tryz.ntmps108
    go_wp2
    go_loopw [5, 9] (fun o i wr => ∃ j : Nat, j ≤ L.length ∧ i = .int .i64 j ∧ o = .int .i64 0 ∧ Hid (Below w.heap.size w wr)) (fun _ i _ => L.length - (intOf i).toNat)
    case atStart => exact ⟨0, by omega, rfl, rfl, Below.refl _ _⟩
    case round =>
      obtain ⟨j, hj, rfl, rfl, HB⟩ := hrel
      by_cases hlt : j < L.length
      · have hg1 : g < wr.heap.size := Nat.lt_of_lt_of_le hg HB.out.size
        have hcall := Db.doubled g off cap L a (j : Int) wr hlc hg1 (hr.below HB.out)
        rw [not_dbl ha] at hcall
        go_wp2_with fail
        refine hcall.mono ?_
        rintro e w1 ⟨rfl, hb1⟩
        have HB1 : Hid (Below w.heap.size w w1) := HB.out.trans (hb1.mono HB.out.size)
        clear hcall hb1 HB hg1
        go_wp2
        go_roundw
        case rel => exact ⟨j + 1, by omega, by go_num, rfl, HB1⟩
        case measure => simp [intOf]; omega
      · obtain rfl : j = L.length := by omega
        go_wp2
        go_ret
        exact ⟨rfl, HB.out⟩
  · have HT : Hid (agI L a = dblS L a.toNat L.length) := by show _ = _; unfold agI; rw [ha]; rfl
    rw [HT.out]
    exact Db.doubles g off cap L a w hlc ha hg hr

set_option maxHeartbeats 1600000 in
theorem nodders (g off cap : Nat) (L : List K) (s b : Int) (w : World) (hlc : laceB L = true) (hg : g < w.heap.size) (hr : RdK w (some ⟨g, off, none⟩) L) :
    Calls Tryz.prog 88 #[.slice (some ⟨g, off, none⟩) L.length cap, .int .i64 s, .int .i64 b] w fun e w' => e = .returned (.int .i64 (nodF L b (Memb.memI s))) ∧ Below w.heap.size w w' := by
  have HLC : Hid (laceB L = true) := hlc
  have h60 := ((Lc.lace_iff L).1 hlc).1
  have hag := ag_bd h60 b
  clear hlc
  go_enter Tryz.func88, Tryz.ntmps88
  go_wp2_with fail
  refine (doublesAny g off cap L b _ HLC.out hg hr).mono ?_
  rintro e w1 ⟨rfl, hb1⟩
  generalize hag' : agI L b = ag at hag ⊢
  have HAG : Hid (agI L b = ag) := hag'
  clear hag'
  go_wp2_with fail
  refine (Memb.picked s _).mono ?_
  rintro e w2 ⟨ao, ca, rfl, hown, hb2⟩
  have hrd := Lst.own_rd hown
  have HBO : Hid (∀ c, ao = some ⟨c, 0, none⟩ → c < w2.heap.size) := fun c e => by subst e; exact (World.ownsRow.lt hown c rfl).2
  have hle : (Memb.memI s).length ≤ 60 := by unfold Memb.memI; split; exact Bit.memTo_le s 60; simp
  have HI : Hid (∀ i ∈ Memb.memI s, 0 ≤ i ∧ i < 60) := fun i h => mem_memI h
  have HB2 : Hid (Below w.heap.size w w2) := hb1.trans (hb2.mono hb1.size)
  clear hown hb1 hb2
  generalize hml : Memb.memI s = l at hrd hle HI ⊢
  have HML : Hid (Memb.memI s = l) := hml
  clear hml
  have hg2 : g < w2.heap.size := Nat.lt_of_lt_of_le hg HB2.out.size
  have HR2 : Hid (RdK w2 (some ⟨g, off, none⟩) L) := hr.below HB2.out
  have HH : Hid (HandsOk L) := Lc.lace_hands HLC.out
  go_wp2
  go_loopw [8, 19] (fun o i wr => ∃ j : Nat, j ≤ l.length ∧ i = .int .i64 j ∧ o = .int .i64 (nodF L b (l.take j)) ∧ Hid (Below w2.heap.size w2 wr)) (fun _ i _ => l.length - (intOf i).toNat)
  case atStart => exact ⟨0, by omega, rfl, rfl, Below.refl _ _⟩
  case round =>
    obtain ⟨j, hj, rfl, rfl, HB⟩ := hrel
    by_cases hlt : j < l.length
    · rcases hrd with hrd | ⟨bb, rfl, hcell⟩
      · rw [hrd] at hlt; simp at hlt
      have hbb := HBO.out bb rfl
      have cj := (HB.out.cell (p := ⟨bb, j, none⟩) hbb).trans (hcell j hlt)
      have hx := HI.out (l.getD j 0) (by simp [List.getD, List.getElem?_eq_getElem hlt])
      have hF := (nodF_bits L b (l.take j) (fun a h => HI.out a (List.mem_of_mem_take h))).1
      have HS : Hid (nodF L b (l.take (j + 1)) = if nodsB L (l.getD j 0) b then withB (nodF L b (l.take j)) (l.getD j 0).toNat else nodF L b (l.take j)) := by
        show _ = _
        rw [Lc.take_snocI l j hlt, nodF_snoc]
      generalize l.getD j 0 = x at cj hx HS
      generalize nodF L b (l.take j) = fo at hF HS ⊢
      have HT : Hid ((Base.okB (metI L x) && (Base.inB b && bit (metI L x) b.toNat)) = seesB L x b) := Sg.met_sees HLC.out x b
      have hmb := met_bd h60 x
      have hok : Base.okB (metI L x) = true := (Base.okB_iff _).2 hmb
      have hok2 : Base.okB (bits .andNot .i64 (metI L x) ag) = true := (Base.okB_iff _).2 (Sg.andNot_bd' _ _ hmb.1 hmb.2)
      have HSM : Hid (_) := hands_same HLC.out (metI L x) ag hmb.1 hmb.2 (met_in HLC.out x) hag.1 hag.2
      have hgr : g < wr.heap.size := Nat.lt_of_lt_of_le hg2 HB.out.size
      have HHF : Hid (∀ (W : World) (y : Int), Below w2.heap.size w2 W → Base.okB y = true → Calls Tryz.prog 109 #[.slice (some ⟨g, off, none⟩) L.length cap, .int .i64 y] W fun e w' => e = .returned (.agg #[.int .i64 (hf L y 0 L.length), .int .i64 (hf L y 1 L.length), .int .i64 (hf L y 2 L.length), .int .i64 (hf L y 3 L.length)]) ∧ Below w2.heap.size w2 w') := fun W y hW hy => by
        refine (handfulsOf g off cap L y W h60 hy HH.out (HR2.out.below hW)).mono ?_
        rintro e w' ⟨h1, h2⟩
        exact ⟨h1, hW.trans (h2.mono hW.size)⟩
      have hcall := Sg.below g off cap L x wr HLC.out hgr (HR2.out.below HB.out)
      clear hcell hgr hmb
      go_wp2_with fail
      refine hcall.mono ?_
      rintro e w3 ⟨rfl, hb3⟩
      have HB3 : Hid (Below w2.heap.size w2 w3) := HB.out.trans (hb3.mono HB.out.size)
      clear hcall hb3 HB cj
      cases hs : seesB L x b
      · have HD : Hid (nodF L b (l.take (j + 1)) = fo) := by show _ = _; rw [HS.out, nods_blind hs]; rfl
        have HT2 : Hid ((Base.okB (metI L x) && (Base.inB b && bit (metI L x) b.toNat)) = false) := HT.out.trans hs
        clear hs HT HS HSM hok hok2
        generalize metI L x = sn at HT2 ⊢
        go_wp2_with (go_at_call 21; refine (Base.has _ _ _).mono ?_; rintro e w' ⟨rfl, rfl⟩; rw [HT2.out])
        go_roundw
        case rel => exact ⟨j + 1, by omega, by go_num, by rw [HD.out], HB3⟩
        case measure => simp [intOf]; omega
      · have HN : Hid (nodsB L x b = (bits .and .i64 (metI L x) ag == 0)) := by show _ = _; rw [nods_sees hs, HAG.out]
        have HT2 : Hid ((Base.okB (metI L x) && (Base.inB b && bit (metI L x) b.toNat)) = true) := HT.out.trans hs
        clear hs HT
        generalize metI L x = sn at HT2 HN HSM hok hok2 ⊢
        generalize hy : bits .andNot .i64 sn ag = yy at HSM hok2
        have HY : Hid (bits .andNot .i64 sn ag = yy) := hy
        clear hy
        have hE := eqHand (hf L sn 0 L.length) (hf L sn 1 L.length) (hf L sn 2 L.length) (hf L sn 3 L.length) (hf L yy 0 L.length) (hf L yy 1 L.length) (hf L yy 2 L.length) (hf L yy 3 L.length)
        rw [HSM.out] at hE
        have HC1 : Hid (∀ W : World, Below w2.heap.size w2 W → Calls Tryz.prog 109 #[.slice (some ⟨g, off, none⟩) L.length cap, .int .i64 sn] W fun e w' => e = .returned (.agg #[.int .i64 (hf L sn 0 L.length), .int .i64 (hf L sn 1 L.length), .int .i64 (hf L sn 2 L.length), .int .i64 (hf L sn 3 L.length)]) ∧ Below w2.heap.size w2 w') := fun W hW => HHF.out W sn hW hok
        have HC2 : Hid (∀ W : World, Below w2.heap.size w2 W → Calls Tryz.prog 109 #[.slice (some ⟨g, off, none⟩) L.length cap, .int .i64 yy] W fun e w' => e = .returned (.agg #[.int .i64 (hf L yy 0 L.length), .int .i64 (hf L yy 1 L.length), .int .i64 (hf L yy 2 L.length), .int .i64 (hf L yy 3 L.length)]) ∧ Below w2.heap.size w2 w') := fun W hW => HHF.out W yy hW hok2
        clear HHF hok hok2 HSM
        generalize hf L sn 0 L.length = a0 at hE HC1
        generalize hf L sn 1 L.length = a1 at hE HC1
        generalize hf L sn 2 L.length = a2 at hE HC1
        generalize hf L sn 3 L.length = a3 at hE HC1
        generalize hf L yy 0 L.length = b0 at hE HC2
        generalize hf L yy 1 L.length = b1 at hE HC2
        generalize hf L yy 2 L.length = b2 at hE HC2
        generalize hf L yy 3 L.length = b3 at hE HC2
        have HW : Hid (Base.withI fo x = withB fo x.toNat) := by
          show _ = _
          unfold Base.withI
          rw [(Base.okB_iff _).2 hF, (Base.inB_iff _).2 hx]; simp
        go_wp2_with (first | (go_at_call 21; refine (Base.has _ _ _).mono ?_; rintro e w' ⟨rfl, rfl⟩; rw [HT2.out]) | fail)
        refine (HC1.out _ HB3.out).mono ?_
        rintro e w4 ⟨rfl, hb4⟩
        have HB4 : Hid (Below w2.heap.size w2 w4) := hb4
        clear hb4 HB3 HC1 HT2
        go_wp2_with fail
        rw [HY.out]
        refine (HC2.out _ HB4.out).mono ?_
        rintro e w5 ⟨rfl, hb5⟩
        have HB5 : Hid (Below w2.heap.size w2 w5) := hb5
        clear hb5 HB4 HC2
        cases hz : (bits .and .i64 sn ag == 0)
        · have HD : Hid (nodF L b (l.take (j + 1)) = fo) := by show _ = _; rw [HS.out, HN.out, hz]; rfl
          rw [hz] at hE
          clear hz HN HS
          go_wp2
          go_roundw
          case rel => exact ⟨j + 1, by omega, by go_num, by rw [HD.out], HB5⟩
          case measure => simp [intOf]; omega
        · have HD : Hid (nodF L b (l.take (j + 1)) = withB fo x.toNat) := by show _ = _; rw [HS.out, HN.out, hz]; rfl
          rw [hz] at hE
          clear hz HN HS
          go_wp2_with (go_at_call 69; refine (Base.withM _ _ _).mono ?_; rintro e w' ⟨rfl, rfl⟩; rw [HW.out])
          go_roundw
          case rel => exact ⟨j + 1, by omega, by go_num, by rw [HD.out], HB5⟩
          case measure => simp [intOf]; omega
    · obtain rfl : j = l.length := by omega
      have e : l.take l.length = l := List.take_length
      rw [e]
      have HBE : Hid (Below w.heap.size w wr) := HB2.out.trans (HB.out.mono HB2.out.size)
      clear HB HB2
      go_wp2
      go_ret
      exact ⟨by rw [HML.out]; rfl, HBE.out⟩

end Nd
end Go.Proofs.YthdjfmndakeaiaaGreat

namespace Go.Proofs.YthdjfmndakeaiaaGreat
open Go.RowKit
set_option maxRecDepth 100000
set_option linter.unusedVariables false
namespace Sl
open Kn (K okK)
open Bit (bit withB memTo)
open Lc (at' RdK WordsOk laceB setB HandsOk handsN)
open Sg (isB bel belows seesB metI)
open Nd (nodF nodsB nodN nodS)
open Ak (onlyF)

/-- all that nod to b, as the program tells them -/
def ndI (L : List K) (b : Int) : Int := nodF L b (Memb.memI (2 ^ L.length - 1))

theorem ndI_bd (L : List K) (b : Int) : 0 ≤ ndI L b ∧ ndI L b < 1152921504606846976 := (Nd.nodF_bits L b _ (fun _ h => Nd.mem_memI h)).1
theorem bit_ndI {L : List K} (h60 : L.length ≤ 60) (b : Int) (j : Nat) : bit (ndI L b) j = nodsB L (j : Int) b := by
  have hp := Lc.pow60 L.length h60
  rw [Bool.eq_iff_iff]
  unfold ndI
  rw [(Nd.nodF_bits L b _ (fun _ h => Nd.mem_memI h)).2 j, Ak.mem_bit (by omega) (by omega), Ak.bit_all h60]
  refine ⟨fun h => h.2, fun h => ⟨?_, h⟩⟩
  unfold Nd.nodsB at h
  rw [Bool.and_eq_true] at h
  obtain ⟨_, p1, _⟩ := Sg.isB_parts h.1
  exact decide_eq_true (by omega)

/-- what the program's sealing asks -/
theorem seal_asks {L : List K} (hl : laceB L = true) (a b : Int) : decide (3 ≤ handsN L (bits .and .i64 (ndI L b) (metI L a))) = sealsB L a b := by
  have h60 := ((Lc.lace_iff L).1 hl).1
  have hn := ndI_bd L b
  have hm := Nd.met_bd h60 a
  have hbit := fun i => bit_and (ndI L b) (metI L a) hn.1 hn.2 hm.1 hm.2 i
  unfold sealsB
  cases ha : isB L a
  · have : handsN L (bits .and .i64 (ndI L b) (metI L a)) = 0 := hands_zero fun i hi => by
      rw [hbit i]
      have e : metI L a = 0 := by
        unfold Sg.metI
        rw [if_neg]
        intro h
        rw [Db.isB_lace hl, decide_eq_true h.1, decide_eq_true h.2] at ha
        exact Bool.noConfusion ha
      rw [e, Lc.bit_zero, Bool.and_false]
    rw [this]; rfl
  · obtain ⟨a0, a1, _⟩ := Sg.isB_parts ha
    cases hb : isB L b
    · have : handsN L (bits .and .i64 (ndI L b) (metI L a)) = 0 := hands_zero fun i hi => by
        rw [hbit i, bit_ndI h60]
        unfold Nd.nodsB
        rw [hb]; simp
      rw [this]; rfl
    · obtain ⟨b0, b1, _⟩ := Sg.isB_parts hb
      have hma : metI L a = bel L a.toNat := by unfold Sg.metI; rw [if_pos ⟨a0, a1⟩]
      have key : ∀ i, i < L.length → bit (bits .and .i64 (ndI L b) (metI L a)) i = bit (nodAt L a.toNat b.toNat) i := fun i hi => by
        rw [hbit i, bit_ndI h60, hma, bit_nodAt h60 (by omega), decide_eq_true hi]
        unfold Nd.nodsB
        rw [hb, Int.toNat_natCast, Db.isB_lace hl, decide_eq_true (by omega : (0 : Int) ≤ (i : Int)), decide_eq_true (by omega : (i : Int) < (L.length : Int))]
        simp only [Bool.true_and]
        exact Bool.and_comm _ _
      have e : handsN L (bits .and .i64 (ndI L b) (metI L a)) = handsN L (nodAt L a.toNat b.toNat) :=
        Int.le_antisymm (hands_mono fun i hi h => by rw [← key i hi]; exact h) (hands_mono fun i hi h => by rw [key i hi]; exact h)
      rw [e]
      rfl

set_option maxHeartbeats 1600000 in
theorem sealing1 (bl bn g off cap : Nat) (L : List K) (a b : Int) (w : World) (hlc : laceB L = true) (hg : g < w.heap.size) (hr : RdK w (some ⟨g, off, none⟩) L)
    (hbl : bl < w.heap.size) (hbn : bn < w.heap.size) (cl : w.cell? ⟨bl, 0, none⟩ = some (.slice (some ⟨g, off, none⟩) L.length cap)) (cn : w.cell? ⟨bn, 0, none⟩ = some (.int .i64 (ndI L b))) :
    Calls Tryz.prog 89 #[.int .i64 a, .pointer (some ⟨bl, 0, none⟩), .pointer (some ⟨bn, 0, none⟩)] w fun e w' => e = .returned (.bool (sealsB L a b)) ∧ Below w.heap.size w w' := by
  have h60 := ((Lc.lace_iff L).1 hlc).1
  have hn := ndI_bd L b
  have hm := Nd.met_bd h60 a
  have hA := and_bd _ _ hn.1 hn.2 hm.1 hm.2
  have hbit := fun i => bit_and (ndI L b) (metI L a) hn.1 hn.2 hm.1 hm.2 i
  have hd : bits .and .i64 (ndI L b) (metI L a) / 2 ^ L.length = 0 := Lc.div_of_bits _ _ hA.1 fun i hi => by
    rw [hbit i, Bool.and_eq_false_iff]
    right
    rw [Bool.eq_false_iff]
    intro h
    have := Nd.met_in hlc a i h
    omega
  have HT : Hid (decide (3 ≤ handsN L (bits .and .i64 (ndI L b) (metI L a))) = sealsB L a b) := seal_asks hlc a b
  have HB : Hid (∀ W : World, Below w.heap.size w W → Calls Tryz.prog 45 #[.slice (some ⟨g, off, none⟩) L.length cap, .int .i64 a] W fun e w' => e = .returned (.int .i64 (metI L a)) ∧ Below w.heap.size w w') := fun W hW =>
    (Sg.below g off cap L a W hlc (Nat.lt_of_lt_of_le hg hW.size) (hr.below hW)).mono fun _ _ h => ⟨h.1, hW.trans (h.2.mono hW.size)⟩
  have HH : Hid (∀ W : World, Below w.heap.size w W → Calls Tryz.prog 90 #[.slice (some ⟨g, off, none⟩) L.length cap, .int .i64 (bits .and .i64 (ndI L b) (metI L a))] W fun e w' => e = .returned (.int .i64 (handsN L (bits .and .i64 (ndI L b) (metI L a)))) ∧ Below w.heap.size w w') := fun W hW =>
    (Lc.hands g off cap L _ W h60 hA.1 hA.2 hd (Lc.lace_hands hlc) (hr.below hW)).mono fun _ _ h => ⟨h.1, hW.trans (h.2.mono hW.size)⟩
  clear hd hbit hA
  generalize ndI L b = nd at cn HT HH hn
  generalize metI L a = mt at HT HH HB hm
  generalize hbb : bits .and .i64 nd mt = bb at HT HH
  have HBB : Hid (bits .and .i64 nd mt = bb) := hbb
  clear hbb
  generalize handsN L bb = hh at HT HH
  go_enter Tryz.func89, Tryz.ntmps89
  go_wp2_with fail
  obtain ⟨X, _, F, HF, HG⟩ := Fam.fam w
  have hc1 : ∀ z, (F z).cell? ⟨bl, 0, none⟩ = some (.slice (some ⟨g, off, none⟩) L.length cap) := fun z => ((HF.out z).cell (p := ⟨bl, 0, none⟩) hbl).trans cl
  have hc2 : ∀ z, (F z).cell? ⟨bn, 0, none⟩ = some (.int .i64 nd) := fun z => ((HF.out z).cell (p := ⟨bn, 0, none⟩) hbn).trans cn
  clear cl cn
  refine Fam.region (F := F) (by kernel_rfl) (by kernel_rfl) (HG.out _ (Below.refl _ w).drew) ?_
  repeat (go_big_quiet_step (first
    | (go_at_call 45; exact (HB.out _ (HF.out _)).mono fun _ _ h => ⟨h.1, HG.out _ h.2⟩)
    | (go_at_call 90; rw [HBB.out]; exact (HH.out _ (HF.out _)).mono fun _ _ h => ⟨h.1, HG.out _ h.2⟩)))
  refine wpQuiet_nil ?_
  intro w2 hw2
  obtain ⟨z, rfl⟩ := hw2
  have HB2 : Hid (Below w.heap.size w (F z)) := HF.out z
  go_wp2
  go_ret
  exact ⟨by rw [← HT.out]; rfl, HB2.out⟩

/-- the closure that tells of whoever is asked whether it seals b -/
def SealFn (L : List K) (b : Int) (g off cap : Nat) (w : World) (e : Ending) (w' : World) : Prop :=
  ∃ bl bn, e = .returned (.func (.func 89) #[] #[.pointer (some ⟨bl, 0, none⟩), .pointer (some ⟨bn, 0, none⟩)]) ∧ bl < w'.heap.size ∧ bn < w'.heap.size ∧
    w'.cell? ⟨bl, 0, none⟩ = some (.slice (some ⟨g, off, none⟩) L.length cap) ∧ w'.cell? ⟨bn, 0, none⟩ = some (.int .i64 (ndI L b)) ∧ Below w.heap.size w w'

theorem kA {W V : World} (h : Below W.drew.heap.size W.drew V) : Below W.heap.size W V := ⟨h.os, h.tape, h.output, h.size, h.block⟩
theorem kB {W V : World} {o : Obj} (h : Below (W.drew.alloc o).heap.size (W.drew.alloc o) V) : Below W.heap.size W V := kA (((Below.refl _ W.drew).alloc (Nat.le_refl _) o).trans (h.mono (by simp)))
theorem kC {W V : World} {o : Obj} (h : Below (W.alloc o).drew.heap.size (W.alloc o).drew V) : Below W.heap.size W V := ((Below.refl _ W).alloc (Nat.le_refl _) o).trans ((kA h).mono (by simp))
theorem keepN {W V : World} {t : TypeId} {v : Value} (h : Below (W.drew.alloc (.cells #[v] t)).heap.size (W.drew.alloc (.cells #[v] t)) V) : V.cell? ⟨W.heap.size, 0, none⟩ = some v ∧ V.frozen? ⟨W.heap.size, 0, none⟩ = false ∧ W.heap.size < V.heap.size := by
  have c := Sg.boxNew W.drew v t
  have hs : W.heap.size < (W.drew.alloc (.cells #[v] t)).heap.size := by rw [World.size_alloc]; exact Nat.lt_succ_self _
  exact ⟨(h.cell (p := ⟨W.heap.size, 0, none⟩) hs).trans c.1, (h.frozen (p := ⟨W.heap.size, 0, none⟩) hs).trans c.2, Nat.lt_of_lt_of_le hs h.size⟩
theorem keepN' {W V : World} {t : TypeId} {v : Value} (h : Below (W.alloc (.cells #[v] t)).drew.heap.size (W.alloc (.cells #[v] t)).drew V) : V.cell? ⟨W.heap.size, 0, none⟩ = some v ∧ V.frozen? ⟨W.heap.size, 0, none⟩ = false ∧ W.heap.size < V.heap.size := by
  have c := Sg.boxNew W v t
  have hs : W.heap.size < (W.alloc (.cells #[v] t)).heap.size := by simp
  have h' := kA h
  exact ⟨(h'.cell (p := ⟨W.heap.size, 0, none⟩) hs).trans c.1, (h'.frozen (p := ⟨W.heap.size, 0, none⟩) hs).trans c.2, Nat.lt_of_lt_of_le hs h'.size⟩

theorem fn_new {L : List K} {b nd : Int} {g off cap bl : Nat} {w w0 V : World} {t : TypeId} (hb : w.heap.size = bl) (hn : ndI L b = nd) (B0 : Below bl w w0) (C0 : w0.cell? ⟨bl, 0, none⟩ = some (.slice (some ⟨g, off, none⟩) L.length cap)) (S0 : bl < w0.heap.size) (B1 : Below w0.heap.size w0 V) :
    SealFn L b g off cap w (.returned (.func (.func 89) #[] #[.pointer (some ⟨bl, 0, none⟩), .pointer (some ⟨V.heap.size, 0, none⟩)])) (V.alloc (.cells #[.int .i64 nd] t)) := by
  subst hb hn
  have hs := B1.size
  refine ⟨w.heap.size, V.heap.size, rfl, by simp; omega, by simp, Sg.boxCell _ ((B1.cell (p := ⟨w.heap.size, 0, none⟩) S0).trans C0), (Sg.boxNew V _ t).1, ?_⟩
  exact (B0.trans (B1.mono (Nat.le_of_lt S0))).alloc (by omega) _
theorem fn_put {L : List K} {b nd : Int} {g off cap bl : Nat} {w w0 V : World} {v : Value} (hb : w.heap.size = bl) (hn : ndI L b = nd) (B0 : Below bl w w0) (C0 : w0.cell? ⟨bl, 0, none⟩ = some (.slice (some ⟨g, off, none⟩) L.length cap)) (S0 : bl < w0.heap.size) (B1 : Below w0.heap.size w0 V) (hc : V.cell? ⟨w0.heap.size, 0, none⟩ = some v) (hv : w0.heap.size < V.heap.size) :
    SealFn L b g off cap w (.returned (.func (.func 89) #[] #[.pointer (some ⟨bl, 0, none⟩), .pointer (some ⟨w0.heap.size, 0, none⟩)])) (V.setCell ⟨w0.heap.size, 0, none⟩ (.int .i64 nd)) := by
  subst hb hn
  have hs := B1.size
  refine ⟨w.heap.size, w0.heap.size, rfl, by simp; omega, by simp; omega, (Sg.put_other V _ _ (by omega) _).trans ((B1.cell (p := ⟨w.heap.size, 0, none⟩) S0).trans C0), World.cell?_setCell_same' _ _ _ (by rw [hc]; rfl), ?_⟩
  exact (B0.trans (B1.mono (Nat.le_of_lt S0))).setCell (p := ⟨w0.heap.size, 0, none⟩) (show w.heap.size ≤ w0.heap.size by omega) _

set_option maxHeartbeats 3200000 in
theorem sealing (g off cap : Nat) (L : List K) (b : Int) (w : World) (hlc : laceB L = true) (hg : g < w.heap.size) (hr : RdK w (some ⟨g, off, none⟩) L) :
    Calls Tryz.prog 71 #[.slice (some ⟨g, off, none⟩) L.length cap, .int .i64 b] w (SealFn L b g off cap w) := by
  have h60 := ((Lc.lace_iff L).1 hlc).1
  have P0 : Hid (Below w.heap.size w (w.alloc (.cells #[.slice (some ⟨g, off, none⟩) L.length cap] 41)) ∧ (w.alloc (.cells #[.slice (some ⟨g, off, none⟩) L.length cap] 41)).cell? ⟨w.heap.size, 0, none⟩ = some (.slice (some ⟨g, off, none⟩) L.length cap) ∧ w.heap.size < (w.alloc (.cells #[.slice (some ⟨g, off, none⟩) L.length cap] 41)).heap.size) := ⟨(Below.refl _ _).alloc (Nat.le_refl _) _, by simp, by simp⟩
  go_enter Tryz.func71, Tryz.ntmps71
  go_wp2_with fail
  generalize w.alloc (.cells #[.slice (some ⟨g, off, none⟩) L.length cap] 41) = w0 at P0 ⊢
  obtain ⟨B0, C0, S0⟩ := P0
  have HB0 : Hid (Below w.heap.size w w0) := B0
  clear B0
  have HNC : Hid (∀ W : World, Below w0.heap.size w0 W → Calls Tryz.prog 88 #[.slice (some ⟨g, off, none⟩) L.length cap, .int .i64 (2 ^ L.length - 1), .int .i64 b] W fun e w' => e = .returned (.int .i64 (ndI L b)) ∧ Below W.heap.size W w') := fun W hW =>
    Nd.nodders g off cap L _ b W hlc (Nat.lt_of_lt_of_le (Nat.lt_of_lt_of_le hg HB0.out.size) hW.size) ((hr.below HB0.out).below hW)
  generalize hnd : ndI L b = nd at HNC
  have HND : Hid (ndI L b = nd) := hnd
  clear hnd
  generalize hb : w.heap.size = bl at *
  have HWB : Hid (w.heap.size = bl) := hb
  have HC0 : Hid (w0.cell? ⟨bl, 0, none⟩ = some (.slice (some ⟨g, off, none⟩) L.length cap)) := C0
  clear hb hr
  have HSB : Hid (∀ X : World, Below w0.heap.size w0 X → X.cell? ⟨bl, 0, none⟩ = some (.slice (some ⟨g, off, none⟩) L.length cap)) := fun X hX => (hX.cell (p := ⟨bl, 0, none⟩) S0).trans C0
  go_region_held3 (fun X => X.cell? ⟨bl, 0, none⟩ = some (.slice (some ⟨g, off, none⟩) L.length cap)) (first
      | exact HSB.out _ (B1.alloc B1.size _)
      | exact HSB.out _ B1
      | exact HSB.out _ (B1.setCell (p := ⟨w0.heap.size, 0, none⟩) (Nat.le_refl _) _)
      | exact HSB.out _ (Below.refl _ _).drew
      | exact HSB.out _ ((Below.refl _ _).alloc (Nat.le_refl _) _).drew
      | exact HSB.out _ ((Below.refl _ _).drew.alloc (Nat.le_refl _) _)
      | go_keep) (first
      | (go_at_call 20
         refine (Lc.all _ _ _ _ h60).mono ?_
         rintro e V0 ⟨rfl, rfl⟩)
      | (go_at_call 88
         refine (HNC.out _ (by first | exact (Below.refl _ _).drew | exact ((Below.refl _ _).alloc (Nat.le_refl _) _).drew | exact (Below.refl _ _).drew.alloc (Nat.le_refl _) _)).mono ?_
         rintro e V1 ⟨rfl, b1⟩
         (first | have HZ := keepN b1 | have HZ := keepN' b1 | skip)
         (first | (have z0 := HZ.1; have g0 := HZ.2.1; have s0 := HZ.2.2) | skip)
         (first | have B1 : Below w0.heap.size w0 V1 := kC b1 | have B1 : Below w0.heap.size w0 V1 := kB b1 | have B1 : Below w0.heap.size w0 V1 := kA b1)))
  all_goals (go_wp2)
  all_goals go_ret
  all_goals (first
    | exact fn_new HWB.out HND.out HB0.out HC0.out S0 B1
    | exact fn_put HWB.out HND.out HB0.out HC0.out S0 B1 z0 s0)

set_option maxHeartbeats 400000 in
theorem seals (g off cap : Nat) (L : List K) (a b : Int) (w : World) (hlc : laceB L = true) (hg : g < w.heap.size) (hr : RdK w (some ⟨g, off, none⟩) L) :
    Calls Tryz.prog 48 #[.slice (some ⟨g, off, none⟩) L.length cap, .int .i64 a, .int .i64 b] w fun e w' => e = .returned (.bool (sealsB L a b)) ∧ Below w.heap.size w w' := by
  have HLC : Hid (laceB L = true) := hlc
  clear hlc
  go_enter Tryz.func48, Tryz.ntmps48
  go_wp2_with fail
  refine (sealing g off cap L b _ HLC.out hg hr).mono ?_
  rintro e w1 ⟨bl, bn, rfl, hbl, hbn, cl, cn, hb1⟩
  have hcall := sealing1 bl bn g off cap L a b w1 HLC.out (Nat.lt_of_lt_of_le hg hb1.size) (hr.below hb1) hbl hbn cl cn
  clear cl cn hbl hbn
  go_wp2_with fail
  refine hcall.mono ?_
  rintro e w2 ⟨rfl, hb2⟩
  have B2 := hb1.trans (hb2.mono hb1.size)
  clear hcall hb1 hb2
  go_wp2
  go_ret
  exact ⟨rfl, B2⟩

theorem lace_box (w : World) (v : Value) (a : Int) (t u : TypeId) : Below w.heap.size w ((w.alloc (.cells #[v] t)).alloc (.cells #[.int .i64 a] u)) ∧ ((w.alloc (.cells #[v] t)).alloc (.cells #[.int .i64 a] u)).cell? ⟨w.heap.size, 0, none⟩ = some v ∧ ((w.alloc (.cells #[v] t)).alloc (.cells #[.int .i64 a] u)).cell? ⟨w.heap.size + 1, 0, none⟩ = some (.int .i64 a) ∧ w.heap.size + 1 < ((w.alloc (.cells #[v] t)).alloc (.cells #[.int .i64 a] u)).heap.size := by
  have c1 := Sg.boxNew (w.alloc (.cells #[v] t)) (.int .i64 a) u
  simp only [World.size_alloc] at c1
  exact ⟨((Below.refl _ _).alloc (Nat.le_refl _) _).alloc (by simp) _, Sg.boxCell _ (Sg.boxNew w v t).1, c1.1, by simp⟩

/-- of a set of the lace: the document's Sealers -/
theorem only_sealers {L : List K} {s b : Int} (hs : setB L s = true) (hb : isB L b = true) : onlyF (fun a => sealsB L a b) (Memb.memI s) = sealersI L s b := by
  obtain ⟨hl, q0, q1, qd, _, _⟩ := Lc.setB_parts hs
  have h60 := ((Lc.lace_iff L).1 hl).1
  have hF := Ak.onlyF_bits (fun a => sealsB L a b) (Memb.memI s) (fun _ h => Ak.mem_memI h)
  have hN := sealS_bd L b.toNat L.length h60
  have hA := and_bd s _ q0 q1 hN.1 hN.2
  unfold sealersI
  rw [hs, hb]
  simp only [Bool.and_self, if_true]
  refine Lc.eq_of_bits _ _ hF.1.1 hA.1 fun j => ?_
  rw [Bool.eq_iff_iff, hF.2 j, bit_and s _ q0 q1 hN.1 hN.2, bit_sealS L b.toNat L.length h60, Bool.and_eq_true, Bool.and_eq_true, decide_eq_true_eq, Ak.mem_bit q0 q1]
  constructor
  · rintro ⟨h1, h2⟩
    unfold sealsB at h2
    rw [Bool.and_eq_true, Bool.and_eq_true] at h2
    obtain ⟨_, p1, _⟩ := Sg.isB_parts h2.1
    exact ⟨h1, by omega, by have := h2.2.2; rwa [Int.toNat_natCast] at this⟩
  · rintro ⟨h1, h2, h3⟩
    refine ⟨h1, ?_⟩
    unfold sealsB
    rw [hb, Int.toNat_natCast, h3, Db.isB_lace hl]
    simp; omega
/-- of a knot: the document's SealedOf -/
theorem only_sealed {L : List K} {a : Int} (ha : isB L a = true) : onlyF (fun b => sealsB L a b) (Memb.memI (metI L a)) = sealedI L a := by
  obtain ⟨a0, a1, hl⟩ := Sg.isB_parts ha
  have h60 := ((Lc.lace_iff L).1 hl).1
  have hF := Ak.onlyF_bits (fun b => sealsB L a b) (Memb.memI (metI L a)) (fun _ h => Ak.mem_memI h)
  have hN := sealedS_bd L a.toNat L.length h60
  have hm := Nd.met_bd h60 a
  unfold sealedI
  rw [ha, if_pos rfl]
  refine Lc.eq_of_bits _ _ hF.1.1 hN.1 fun j => ?_
  rw [Bool.eq_iff_iff, hF.2 j, bit_sealedS L a.toNat L.length h60, Bool.and_eq_true, decide_eq_true_eq, Ak.mem_bit hm.1 hm.2]
  have hma : metI L a = bel L a.toNat := by unfold Sg.metI; rw [if_pos ⟨a0, a1⟩]
  constructor
  · rintro ⟨h1, h2⟩
    unfold sealsB at h2
    rw [Bool.and_eq_true, Bool.and_eq_true] at h2
    exact ⟨Nd.met_in hl a j h1, by have := h2.2.2; rwa [Int.toNat_natCast] at this⟩
  · rintro ⟨h2, h3⟩
    refine ⟨by rw [hma]; exact seal_sees hl (by omega) h3, ?_⟩
    unfold sealsB
    rw [ha, Int.toNat_natCast, h3, Db.isB_lace hl]
    simp; omega

end Sl
end Go.Proofs.YthdjfmndakeaiaaGreat
