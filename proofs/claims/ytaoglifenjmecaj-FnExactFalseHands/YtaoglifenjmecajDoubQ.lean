/-
  What the model's FalseHands answers: the hands of which two in the set are doubled, rising; for lists of knots whose words have at most 2^40 bytes.
-/
import Derived.Test.YtaoglifenjmecajDoubM
import Derived.Test.YtaoglifenjmecajDoubN
import Derived.Maps.AppendAt
namespace Go.Proofs.Ytaoglifenjmecaj
open Go.RowKit
set_option maxRecDepth 100000
namespace Db
open Kn (K okK)
open Bit (bit withB memTo)
open Lc (at' RdK WordsOk laceB setB amongI)
open Sg (isB bel belows)
open Memb (Own)

/-- one of the set is of that hand and doubled with one of the set -/
def hitB (L : List K) (s h : Int) (i : Nat) : Bool := bit s i && (decide ((at' L i).hand = h) && (bits .and .i64 (dblS L i L.length) s != 0))
def falseUp (L : List K) (s h : Int) (n : Nat) : Bool := (List.range n).any (hitB L s h)
theorem falseUp_succ (L : List K) (s h : Int) (n : Nat) : falseUp L s h (n + 1) = (falseUp L s h n || hitB L s h n) := by unfold falseUp; rw [List.range_succ]; simp
/-- the hand is false -/
def falseB (L : List K) (s h : Int) : Bool := falseUp L s h L.length
/-- the false ones of the first -/
def falseTo (L : List K) (s : Int) : Nat → List Int
  | 0 => []
  | n + 1 => falseTo L s n ++ if falseB L s (n : Int) then [(n : Int)] else []
/-- the document's FalseHands -/
def falseI (L : List K) (s : Int) : List Int := if setB L s then falseTo L s 4 else []

theorem falseTo_le (L : List K) (s : Int) (n : Nat) : (falseTo L s n).length ≤ n := by
  induction n with
  | zero => exact Nat.le_refl 0
  | succ n ih => unfold falseTo; split <;> simp <;> omega
theorem falseI_le (L : List K) (s : Int) : (falseI L s).length ≤ 4 := by
  unfold falseI; split
  · exact falseTo_le L s 4
  · simp

theorem false_iff {L : List K} (s h : Int) (hn : L.length ≤ 60) (h0 : 0 ≤ s) (h1 : s < 1152921504606846976) :
    falseB L s h = true ↔ ∃ i j, i < L.length ∧ j < L.length ∧ bit s i = true ∧ bit s j = true ∧ (at' L i).hand = h ∧ dblN L i j = true := by
  unfold falseB falseUp
  rw [List.any_eq_true]
  constructor
  · rintro ⟨i, hi, hh⟩
    rw [List.mem_range] at hi
    unfold hitB at hh
    simp only [Bool.and_eq_true, decide_eq_true_eq, bne_iff_ne] at hh
    obtain ⟨a, b, c⟩ := hh
    have hb := dblS_bd L i L.length hn
    obtain ⟨j, hj, hs⟩ := (Lc.and_zero_iff _ _ hb.1 (by omega) h0 (by omega)).1 c
    rw [bit_dblS L i _ hn, Bool.and_eq_true, decide_eq_true_eq] at hj
    exact ⟨i, j, hi, hj.1, a, hs, b, hj.2⟩
  · rintro ⟨i, j, hi, hj, a, b, c, d⟩
    refine ⟨i, List.mem_range.2 hi, ?_⟩
    have hb := dblS_bd L i L.length hn
    unfold hitB
    simp only [Bool.and_eq_true, decide_eq_true_eq, bne_iff_ne]
    refine ⟨a, c, (Lc.and_zero_iff _ _ hb.1 (by omega) h0 (by omega)).2 ⟨j, ?_, b⟩⟩
    rw [bit_dblS L i _ hn, d]; simp [hj]

theorem dblN_symm (L : List K) (i j : Nat) : dblN L i j = dblN L j i := by
  unfold dblN
  rw [show decide ((at' L j).hand = (at' L i).hand) = decide ((at' L i).hand = (at' L j).hand) from by rw [Bool.eq_iff_iff]; simp [eq_comm], Bool.and_comm (!bit (bel L i) j)]

/-- those of the set that are of that hand -/
def ofHand (L : List K) (s h : Int) : Int := amongI (fun y => decide (y.hand = h)) L s L.length

theorem mem_ofHand {L : List K} (hl : laceB L = true) (s h : Int) (a : Nat) : (a : Int) ∈ Memb.memI (ofHand L s h) ↔ a < L.length ∧ bit s a = true ∧ (at' L a).hand = h := by
  have h60 := ((Lc.lace_iff L).1 hl).1
  have hb := Lc.among_bd (fun y => decide (y.hand = h)) L s L.length h60
  unfold Memb.memI ofHand
  rw [(Base.okB_iff _).2 hb, if_pos rfl, Bit.mem_memTo]
  constructor
  · rintro ⟨j, _, e, hbit⟩
    obtain rfl : a = j := by omega
    rw [Lc.bit_among _ L s _ h60] at hbit
    simpa using hbit
  · rintro ⟨h1, h2, h3⟩
    exact ⟨a, by omega, rfl, by rw [Lc.bit_among _ L s _ h60]; simp [h1, h2, h3]⟩

theorem ofHand_in {L : List K} (hl : laceB L = true) (s h : Int) : ∀ x ∈ Memb.memI (ofHand L s h), 0 ≤ x ∧ x < (L.length : Int) := by
  intro x hx
  have h60 := ((Lc.lace_iff L).1 hl).1
  have hb := Lc.among_bd (fun y => decide (y.hand = h)) L s L.length h60
  have hx' := hx
  unfold Memb.memI ofHand at hx'
  rw [(Base.okB_iff _).2 hb, if_pos rfl, Bit.mem_memTo] at hx'
  obtain ⟨j, _, rfl, _⟩ := hx'
  have := ((mem_ofHand hl s h j).1 hx).1
  omega

theorem ofHand_rise {L : List K} (hl : laceB L = true) (s h : Int) : Rise (Memb.memI (ofHand L s h)) := by
  have h60 := ((Lc.lace_iff L).1 hl).1
  have hb := Lc.among_bd (fun y => decide (y.hand = h)) L s L.length h60
  unfold Memb.memI ofHand
  rw [(Base.okB_iff _).2 hb, if_pos rfl]
  exact rise_memTo _ _

/-- there are two that are apart just where the hand is false -/
theorem apart_false {L : List K} (hl : laceB L = true) (s h : Int) (h0 : 0 ≤ s) (h1 : s < 1152921504606846976) :
    (∃ a b, a < 60 ∧ b < 60 ∧ apartB L (Memb.memI (ofHand L s h)) a b = true) ↔ falseB L s h = true := by
  have h60 := ((Lc.lace_iff L).1 hl).1
  rw [false_iff s h h60 h0 h1]
  constructor
  · rintro ⟨a, b, _, _, hab⟩
    obtain ⟨hb, ha, hlt, hbit⟩ := (apart_iff L _ a b).1 hab
    obtain ⟨b1, b2, b3⟩ := (mem_ofHand hl s h b).1 hb
    obtain ⟨a1, a2, a3⟩ := (mem_ofHand hl s h a).1 ha
    refine ⟨b, a, b1, a1, b2, a2, b3, ?_⟩
    unfold dblN
    rw [b3, a3, hbit, bel_hi hl a1 hlt]; simp
  · rintro ⟨i, j, hi, hj, si, sj, hh, hd⟩
    have key : ∀ i j : Nat, i < j → i < L.length → j < L.length → bit s i = true → bit s j = true → (at' L i).hand = h → dblN L i j = true → ∃ a b, a < 60 ∧ b < 60 ∧ apartB L (Memb.memI (ofHand L s h)) a b = true := by
      intro i j hij hi hj si sj hh hd
      have hd' := hd
      unfold dblN at hd'
      simp only [Bool.and_eq_true, decide_eq_true_eq, Bool.not_eq_true'] at hd'
      refine ⟨i, j, by omega, by omega, (apart_iff L _ i j).2 ⟨(mem_ofHand hl s h j).2 ⟨hj, sj, by rw [← hd'.1]; exact hh⟩, (mem_ofHand hl s h i).2 ⟨hi, si, hh⟩, hij, hd'.2.2⟩⟩
    rcases Nat.lt_trichotomy i j with hlt | rfl | hgt
    · exact key i j hlt hi hj si sj hh hd
    · unfold dblN at hd
      rw [bel_self hl hi] at hd
      simp at hd
    · refine key j i hgt hj hi sj si ?_ (by rw [dblN_symm]; exact hd)
      unfold dblN at hd
      simp only [Bool.and_eq_true, decide_eq_true_eq] at hd
      rw [← hd.1]; exact hh

/-- the false ones found so far, as a set -/
def foundS (L : List K) (s : Int) : Nat → Int
  | 0 => 0
  | n + 1 => if falseB L s (n : Int) then withB (foundS L s n) n else foundS L s n

theorem foundS_bd (L : List K) (s : Int) (n : Nat) (hn : n ≤ 60) : 0 ≤ foundS L s n ∧ foundS L s n < 1152921504606846976 := by
  induction n with
  | zero => exact ⟨Int.le_refl 0, show (0 : Int) < 1152921504606846976 by decide⟩
  | succ n ih =>
    have ih := ih (by omega)
    unfold foundS
    split
    · exact Bit.withB_bd _ ih.1 ih.2 n (by omega)
    · exact ih

theorem bit_foundS (L : List K) (s : Int) (n : Nat) (hn : n ≤ 60) (j : Nat) : bit (foundS L s n) j = (decide (j < n) && falseB L s (j : Int)) := by
  induction n with
  | zero => unfold foundS; rw [Lc.bit_zero]; simp
  | succ n ih =>
    have ih := ih (by omega)
    have hb := foundS_bd L s n (by omega)
    unfold foundS
    cases hd : falseB L s (n : Int)
    · rw [if_neg (by simp), ih]
      by_cases e : j = n
      · subst e; simp [hd]
      · rw [show decide (j < n + 1) = decide (j < n) from by rw [Bool.eq_iff_iff]; simp; omega]
    · rw [if_pos rfl, Bit.bit_withB _ hb.1, ih]
      by_cases e : j = n
      · subst e; simp [hd]
      · rw [show decide (j < n + 1) = decide (j < n) from by rw [Bool.eq_iff_iff]; simp; omega]; simp [e]

theorem mem_foundS (L : List K) (s : Int) : Memb.memI (foundS L s 4) = falseTo L s 4 := by
  have hb := foundS_bd L s 4 (by omega)
  have hd : foundS L s 4 / 2 ^ 4 = 0 := Lc.div_of_bits _ 4 hb.1 fun i hi => by rw [bit_foundS L s 4 (by omega)]; simp; omega
  unfold Memb.memI
  rw [(Base.okB_iff _).2 hb, if_pos rfl, ← Bit.memTo_all _ hb.1 hb.2 4 hd]
  have : ∀ n, n ≤ 4 → memTo (foundS L s 4) n = falseTo L s n := by
    intro n
    induction n with
    | zero => intro _; rfl
    | succ n ih =>
      intro hn
      rw [Bit.memTo_succ, ih (by omega), bit_foundS L s 4 (by omega)]
      have : decide (n < 4) = true := by simp; omega
      rw [this]; rfl
  exact this 4 (by omega)

/-- the list that is handed back lies in memory of its own, apart from the table -/
theorem own_far {B gD : Nat} {w wr w1 : World} {v v' : Value} {o : Obj} {l l' : List Int} {x : Int} (hl : l' = l ++ [x]) (hB : B ≤ wr.heap.size) (hne : v.ownBlock ≠ some gD) (hgD : gD < wr.heap.size)
    (hown : wr.ownsRow B 2 1 v l.length (l.map (Value.int .i64))) (hnx : Below B w wr)
    (hown' : w1.ownsRow B 2 1 v' (l.length + 1) (l.map (Value.int .i64) ++ [.int .i64 x])) (hgrow : (wr.alloc o).grownBy w1 v.ownBlock) (hloc : v'.ownBlock = v.ownBlock ∨ v'.ownBlock = some (wr.heap.size + 1)) {n : Nat} {D : Nat → Int} (hD : RowI wr gD n D) :
    (w1.ownsRow B 2 1 v' l'.length (l'.map (Value.int .i64)) ∧ Below B w w1) ∧ v'.ownBlock ≠ some gD ∧ RowI w1 gD n D := by
  have R := Memb.rel_put hl hB hown hnx hown' hgrow
  have hg : wr.grownBy w1 v.ownBlock := (World.grownBy_alloc wr o _).trans hgrow
  have hblk : w1.heap[gD]? = wr.heap[gD]? := hg.block gD hgD (fun e => hne e.symm)
  refine ⟨⟨R.1, R.2.1⟩, ?_, ⟨Nat.lt_of_lt_of_le hgD hg.size, fun i hi => (World.cell?_of_block (w := wr) (a := ⟨gD, i, none⟩) hblk).trans (hD.rd i hi), fun i hi => (World.frozen?_of_block (w := wr) (a := ⟨gD, i, none⟩) hblk).trans (hD.fr i hi)⟩⟩
  rcases hloc with e | e
  · rw [e]; exact hne
  · rw [e]; simp; omega

set_option maxHeartbeats 6400000 in
theorem specFalseHands (g off cap : Nat) (L : List K) (s : Int) (w : World) (hcap : L.length ≤ cap) (hw : WordsOk L) (hr : RdK w (some ⟨g, off, none⟩) L) :
    Calls Try.prog 16 #[.slice (some ⟨g, off, none⟩) L.length cap, .int .i64 s] w (Sg.NumsPost (falseI L s) w) := by
  obtain ⟨i0, hi, hz0, hz1, hz2⟩ := info_parts Memb.info2
  have hB0 : Below w.heap.size w (w.alloc (.cells #[] 2)) := (Below.refl _ w).alloc (Nat.le_refl _) _
  have hO0 := Memb.own_empty w
  have hr0 := hr.below hB0
  have hs0 : w.heap.size < (w.alloc (.cells #[] 2)).heap.size := by simp
  go_enter Try.func16, Try.ntmps16
  go_wp2_with fail
  generalize w.alloc (.cells #[] 2) = W0 at hB0 hO0 hr0 hs0 ⊢
  refine (Lc.l3Set g off cap L s _ hcap hw hr0).mono ?_
  rintro e w1 ⟨rfl, hb1⟩
  have hr1 := hr0.below hb1
  have hB1 : Below w.heap.size w w1 := hB0.trans (hb1.mono hB0.size)
  have hO1 : Memb.Own w.heap.size w1 (some ⟨w.heap.size, 0, none⟩) 0 [] := Lst.own_below (l := []) hO0 hb1
  have hs1 : w.heap.size < w1.heap.size := Nat.lt_of_lt_of_le hs0 hb1.size
  have HR0 : Hid (RdK w (some ⟨g, off, none⟩) L) := hr
  clear hb1 hO0 hr0 hB0 hs0 hr
  cases hset : setB L s
  · have HT : Hid (falseI L s = []) := by show _ = _; unfold falseI; rw [hset]; rfl
    clear hset
    go_wp2
    go_ret
    rw [HT.out]
    exact ⟨_, _, rfl, hO1, hB1⟩
  · have HT : Hid (falseI L s = falseTo L s 4) := by show _ = _; unfold falseI; rw [hset]; rfl
    obtain ⟨hlc, q0, q1, _, h60, _⟩ := Lc.setB_parts hset
    have HLC : Hid (laceB L = true) := hlc
    clear hset hlc
    go_wp2_with fail
    refine (table g off cap L _ HLC.out hr1).mono ?_
    rintro e w2 ⟨bo, bc, rfl, hb2, h5⟩
    have hB2 := hB1.trans (hb2.mono hB1.size)
    have hO2 := Lst.own_below (l := []) hO1 hb2
    have hr2 := hr1.below hb2
    have hs2 : w.heap.size < w2.heap.size := Nat.lt_of_lt_of_le hs1 hb2.size
    clear hb2 hB1 hO1 hr1 hs1
    go_wp2_with fail
    refine h5.mono ?_
    rintro e w3 ⟨D, rfl, hrow, hD, hb3⟩
    have hB3 := hB2.trans (hb3.mono hB2.size)
    have hO3 := Lst.own_below (l := []) hO2 hb3
    have hr3 := hr2.below hb3
    have HD : Hid (∀ i, i < L.length → D i = dblS L i L.length) := fun i hi => dbl_eq HLC.out hD hi
    have hgs : w.heap.size ≤ w2.heap.size := Nat.le_of_lt hs2
    have hne0 : w.heap.size ≠ w2.heap.size := by omega
    clear hb3 hB2 hO2 hr2 hD h5 hs2
    generalize w2.heap.size = gD at hrow hgs hne0 ⊢
    have HB3 : Hid (Below w.heap.size w w3) := hB3
    have HO3 : Hid (Memb.Own w.heap.size w3 (some ⟨w.heap.size, 0, none⟩) 0 []) := hO3
    have HRow : Hid (RowI w3 gD L.length D) := hrow
    clear hr3 hB3 hO3 hrow
    go_wp2
    go_loopw [5, 7] (fun v h wr => ∃ k : Nat, k ≤ 4 ∧ h = .int .i64 (k : Int) ∧ Hid (wr.ownsRow w.heap.size 2 1 v (falseTo L s k).length ((falseTo L s k).map (Value.int .i64))) ∧ Hid (Below w.heap.size w wr) ∧ Hid (v.ownBlock ≠ some gD) ∧ Hid (RowI wr gD L.length D)) (fun _ h _ => 4 - (intOf h).toNat)
    case atStart => exact ⟨0, by omega, rfl, HO3.out, HB3, fun e => by cases e; exact hne0 rfl, HRow⟩
    case round =>
      obtain ⟨k, hk, rfl, HO, HB, HN, HW⟩ := hrel
      obtain ⟨wq, hwq⟩ : ∃ wq, wq = wr := ⟨_, rfl⟩
      subst hwq
      by_cases hlt : k < 4
      · have hrk := HR0.out.below HB.out
        have hle := falseTo_le L s k
        have hnn : wq.heap.size ≥ w.heap.size := HB.out.size
        have hk4 : decide ((k : Int) < 4) = true := by simp; omega
        go_wp2
        try rw [hk4]
        go_loopw [8, 9] (fun b i wz => ∃ j : Nat, j ≤ L.length ∧ i = .int .i64 (j : Int) ∧ b = .bool (falseUp L s (k : Int) j) ∧ wz = wq) (fun _ i _ => L.length - (intOf i).toNat)
        case atStart => exact ⟨0, by omega, rfl, rfl, rfl⟩
        case round =>
          obtain ⟨j, hj, rfl, rfl, hwz⟩ := hrel
          subst hwz
          by_cases hjl : j < L.length
          · have HS : Hid (falseUp L s (k : Int) (j + 1) = (falseUp L s (k : Int) j || hitB L s (k : Int) j)) := falseUp_succ L s _ j
            cases hu : falseUp L s (k : Int) j
            · obtain ⟨_, c0, _, _, _⟩ := hrk.on j hjl
              have cd := HW.out.rd j hjl
              rw [HD.out j hjl] at cd
              have HH : Hid (hitB L s (k : Int) j = (bit s j && (decide ((at' L j).hand = (k : Int)) && (bits .and .i64 (dblS L j L.length) s != 0)))) := rfl
              cases hb : bit s j
              · have HT2 : Hid (falseUp L s (k : Int) (j + 1) = false) := by show _ = _; rw [HS.out, hu, HH.out, hb]; rfl
                have HC : Hid (bit s j = false) := hb
                clear hb hu HS HH
                go_wp2_with (go_at_call 30; refine (Base.l1Has _ _ _ q0 q1 (by omega) (by omega)).mono ?_; rintro e w' ⟨rfl, rfl⟩; rw [Int.toNat_natCast, HC.out])
                go_roundw
                case rel => exact ⟨j + 1, by omega, by go_num, by rw [HT2.out], by first | rfl | trivial⟩
                case measure => simp [intOf]; omega
              · have HC : Hid (bit s j = true) := hb
                by_cases hh : (at' L j).hand = (k : Int)
                · have hh1 : ((at' L j).hand == (k : Int)) = true := by simpa using hh
                  have HT2 : Hid (falseUp L s (k : Int) (j + 1) = (bits .and .i64 (dblS L j L.length) s != 0)) := by show _ = _; rw [HS.out, hu, HH.out, hb]; simp [hh]
                  clear hb hu HS HH hh
                  generalize dblS L j L.length = d at cd HT2
                  cases hz : (bits .and .i64 d s != 0)
                  · have HT3 : Hid (falseUp L s (k : Int) (j + 1) = false) := HT2.out.trans hz
                    clear HT2
                    go_wp2_with (go_at_call 30; refine (Base.l1Has _ _ _ q0 q1 (by omega) (by omega)).mono ?_; rintro e w' ⟨rfl, rfl⟩; rw [Int.toNat_natCast, HC.out])
                    go_roundw
                    case rel => exact ⟨j + 1, by omega, by go_num, by rw [HT3.out], by first | rfl | trivial⟩
                    case measure => simp [intOf]; omega
                  · have HT3 : Hid (falseUp L s (k : Int) (j + 1) = true) := HT2.out.trans hz
                    clear HT2
                    go_wp2_with (go_at_call 30; refine (Base.l1Has _ _ _ q0 q1 (by omega) (by omega)).mono ?_; rintro e w' ⟨rfl, rfl⟩; rw [Int.toNat_natCast, HC.out])
                    go_roundw
                    case rel => exact ⟨j + 1, by omega, by go_num, by rw [HT3.out], by first | rfl | trivial⟩
                    case measure => simp [intOf]; omega
                · have hh1 : ((at' L j).hand == (k : Int)) = false := by simpa using hh
                  have HT2 : Hid (falseUp L s (k : Int) (j + 1) = false) := by show _ = _; rw [HS.out, hu, HH.out, hb]; simp [hh]
                  clear hb hu HS HH hh
                  go_wp2_with (go_at_call 30; refine (Base.l1Has _ _ _ q0 q1 (by omega) (by omega)).mono ?_; rintro e w' ⟨rfl, rfl⟩; rw [Int.toNat_natCast, HC.out])
                  go_roundw
                  case rel => exact ⟨j + 1, by omega, by go_num, by rw [HT2.out], by first | rfl | trivial⟩
                  case measure => simp [intOf]; omega
            · have HT2 : Hid (falseUp L s (k : Int) (j + 1) = true) := by show _ = _; rw [HS.out, hu]; rfl
              clear hu HS
              go_wp2
              go_roundw
              case rel => exact ⟨j + 1, by omega, by go_num, by rw [HT2.out], by first | rfl | trivial⟩
              case measure => simp [intOf]; omega
          · obtain rfl : j = L.length := by omega
            have HF : Hid (falseTo L s (k + 1) = falseTo L s k ++ if falseUp L s (k : Int) L.length then [(k : Int)] else []) := rfl
            clear hrk
            cases hu : falseUp L s (k : Int) L.length
            · have HF2 : Hid (falseTo L s (k + 1) = falseTo L s k) := by show _ = _; rw [HF.out, hu]; simp
              clear hu HF
              go_wp2
              go_roundw
              case rel => exact ⟨k + 1, by omega, by go_num, by rw [HF2.out]; exact HO, HB, HN, HW⟩
              case measure => simp [intOf]; omega
            · have HF2 : Hid (falseTo L s (k + 1) = falseTo L s k ++ [(k : Int)]) := by show _ = _; rw [HF.out, hu]; simp
              have HOA : Hid (∀ o : Obj, (wr.alloc o).ownsRow w.heap.size 2 1 u5 (falseTo L s k).length ((falseTo L s k).map (Value.int .i64))) := fun o => HO.out.alloc o
              clear hu HF
              generalize falseTo L s k = l at HF2 HO HOA hle
              go_wp2_with (at_builtin; refine wpList_append_own_at _ rfl _ _ 31 rfl w.heap.size 2 i0 (.int .i64 0) 1 8 Try.underlying31 hi hz0 hz1 hz2 rfl (by decide) _ _ _ rfl (HOA.out _) ⟨wr.heap.size, 0, none⟩ 1 1 [.int .i64 (k : Int)] rfl rfl (Sg.one_new wr _ _) (Sg.one_one _) ?c3 ?c4 ?c5 ?_)
              case c3 => unfold maxLen; omega
              case c4 => omega
              case c5 => simp; omega
              intro v' w4 hown' hgrow _ hloc
              have R := own_far HF2.out HB.out.size HN.out HW.out.lt HO.out HB.out hown' hgrow hloc HW.out
              have HO1 : Hid _ := R.1.1
              have HB1 : Hid _ := R.1.2
              have HN1 : Hid _ := R.2.1
              have HW1 : Hid _ := R.2.2
              clear hown' hgrow hloc R HO HB HN HW HOA
              go_wp2
              go_roundw
              case rel => exact ⟨k + 1, by omega, by go_num, HO1, HB1, HN1, HW1⟩
              case measure => simp [intOf]; omega
      · obtain rfl : k = 4 := by omega
        obtain ⟨ro, rc, hv, hown⟩ := Memb.own_shape HO.out
        have HV : Hid (u5 = .slice ro (falseTo L s 4).length rc) := hv
        clear hv
        go_wp2
        go_ret
        rw [HT.out]
        exact ⟨ro, rc, by rw [← HV.out]; rfl, hown, HB.out⟩

end Db
end Go.Proofs.Ytaoglifenjmecaj
