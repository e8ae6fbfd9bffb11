/-
  What the law on chains answers, where the drawing of a room keeps its word and the program's ChainOf, Earlier and OnChain answer as they should: true at every code.
-/
import Derived.Test.YthdjfmndakeaiaaGreatChZb
import Derived.Test.YthdjfmndakeaiaaGreatFam
namespace Go.Proofs.YthdjfmndakeaiaaGreat
open Go.RowKit
set_option maxRecDepth 100000
namespace Rm
open Kn (K okK)
open Bit (bit memTo)
open Lc (at' RdK laceB flat OwnK cellsOf setB)
open Sg (bel belows belowI isB NumsPost)
open Ch (leadK leadsB chainI chainL earlierI earlierN onChainB)
open Sl (sealsB sealN)
open Cur (At)

def ImplChainOf : Prop := ∀ (g cap : Nat) (L : List K) (ao : Option Addr) (cc : Nat) (C : List Int) (k : Int) (w : World), LiesC w g L ao C → -9223372036854775808 ≤ k → k ≤ 9223372036854775807 →
    Calls Tryz.prog 6 #[.slice (some ⟨g, 0, none⟩) L.length cap, .slice ao C.length cc, .int .i64 k] w (NumsPost (chainI L C k) w)
def ImplEarlier : Prop := ∀ (g cap : Nat) (L : List K) (ao : Option Addr) (cc : Nat) (C : List Int) (k : Int) (w : World), LiesC w g L ao C → -9223372036854775808 ≤ k → k ≤ 9223372036854775807 →
    Calls Tryz.prog 7 #[.slice (some ⟨g, 0, none⟩) L.length cap, .slice ao C.length cc, .int .i64 k] w fun e w' => e = .returned (.int .i64 (earlierI L C k)) ∧ Below w.heap.size w w'
def ImplOnChain : Prop := ∀ (g cap : Nat) (L : List K) (ao : Option Addr) (cc : Nat) (C : List Int) (k x : Int) (w : World), LiesC w g L ao C → -9223372036854775808 ≤ k → k ≤ 9223372036854775807 → -9223372036854775808 ≤ x → x ≤ 9223372036854775807 →
    Calls Tryz.prog 12 #[.slice (some ⟨g, 0, none⟩) L.length cap, .slice ao C.length cc, .int .i64 k, .int .i64 x] w fun e w' => e = .returned (.bool (onChainB L C k x)) ∧ Below w.heap.size w w'

theorem own_cap {B : Nat} {w : World} {ao : Option Addr} {cap : Nat} {l : List Int} (h : Memb.Own B w ao cap l) : l.length ≤ cap := by
  obtain ⟨_, ⟨hv, hn⟩ | ⟨g, cap', cur, hv, hB, hn, _⟩⟩ := h
  · omega
  · injection hv with _ _ hv; omega

theorem rd_take {w : World} {fb : Nat} {l : List Int} (h : ∀ j, j < l.length → w.cell? ⟨fb, j, none⟩ = some (.int .i64 (l.getD j 0))) (i : Nat) (hi : i ≤ l.length) : Lst.Rd w (some ⟨fb, 0, none⟩) (l.take i) := by
  refine .inr ⟨fb, rfl, fun j hj => ?_⟩
  rw [List.length_take] at hj
  have := h j (by omega)
  rw [this]
  simp only [List.getD, List.getElem?_take, show j < i by omega, if_true]

theorem chain_off {L : List K} {C : List Int} {k : Int} (h : isB L k = false ∨ coinsB C = false) : chainI L C k = [] ∧ earlierI L C k = -1 := by
  have : Ch.onB L C k = false := by
    unfold Ch.onB
    rcases h with h | h <;> rw [h] <;> simp
  unfold Ch.chainI Ch.earlierI
  rw [this]
  exact ⟨rfl, rfl⟩
theorem chain_on {L : List K} {C : List Int} {q : Nat} (h : isB L (q : Int) = true) (h2 : coinsB C = true) : chainI L C (q : Int) = chainL L C (q : Int) ∧ earlierI L C (q : Int) = earlierN L C q := by
  have : Ch.onB L C (q : Int) = true := by unfold Ch.onB; rw [h, h2]; rfl
  unfold Ch.chainI Ch.earlierI
  rw [this]
  exact ⟨rfl, rfl⟩
theorem isB_nat {L : List K} (hl : laceB L = true) {x : Nat} (hx : x < L.length) : isB L (x : Int) = true := by
  unfold Sg.isB
  rw [hl]
  simp; omega

set_option maxHeartbeats 6400000 in
theorem chainsWalk (HI1 : ImplChainOf) (HI2 : ImplEarlier) (HI3 : ImplOnChain) (HD : DrawsRoom) (HDC : DrawsRoomC) (a0 : Option Addr) (len0 cap0 : Nat) (w : World) (hcode : Cur.Code w a0 len0) :
    Calls Tryz.prog 3 #[.slice a0 len0 cap0] w fun e w' => e = .returned (.bool true) ∧ Below w.heap.size w w' := by
  by_cases hbig : 4096 < len0
  · have hb' : (4096 : Int) < (len0 : Int) := by omega
    go_enter Tryz.func3, Tryz.ntmps3
    go_wp2
    go_ret
    exact ⟨rfl, Below.refl _ _⟩
  · have hb' : ¬ (4096 : Int) < (len0 : Int) := by omega
    have hle0 : len0 ≤ 4096 := by omega
    have HDD : Hid DrawsRoom := HD
    have HDX : Hid DrawsRoomC := HDC
    have H1 : Hid ImplChainOf := HI1
    have H2 : Hid ImplEarlier := HI2
    have H3 : Hid ImplOnChain := HI3
    have HCode : Hid (Cur.Code w a0 len0) := hcode
    clear hbig HD HDC hcode HI1 HI2 HI3
    go_enter Tryz.func3, Tryz.ntmps3
    go_wp2_with (first | (go_at_call 4; go_in) | fail)
    refine (drawChainOf HDD.out HDX.out a0 len0 cap0 _ hle0 HCode.out).mono ?_
    rintro e w1 ⟨v, L, ao, cc, C, k, rfl, hD1, hk0⟩
    obtain ⟨g, cp, rfl, hcp, hL1⟩ := drawn_liesC hD1
    have hB1 : Below w.heap.size w w1 := hD1.dr.bel
    clear hD1
    go_wp2_with fail
    refine (H1.out g cp L ao cc C k _ hL1 hk0.1 hk0.2).mono ?_
    rintro e w2 ⟨fo, fc, rfl, hof, hb2⟩
    have HL2 : Hid (LiesC w2 g L ao C) := hL1.below hb2
    have HB2 : Hid (Below w.heap.size w w2) := hB1.trans (hb2.mono hB1.size)
    have HF2 : Hid (Memb.Own w1.heap.size w2 fo fc (chainI L C k)) := hof
    clear hL1 hB1 hb2 hof
    go_wp2_with fail
    refine (H2.out g cp L ao cc C k _ HL2.out hk0.1 hk0.2).mono ?_
    rintro e w3 ⟨rfl, hb3⟩
    have HL3 : Hid (LiesC w3 g L ao C) := HL2.out.below hb3
    have HB3 : Hid (Below w.heap.size w w3) := HB2.out.trans (hb3.mono HB2.out.size)
    have HF3 : Hid (Memb.Own w1.heap.size w3 fo fc (chainI L C k)) := Lst.own_below HF2.out hb3
    clear HL2 HB2 hb3 HF2
    go_wp2_with fail
    refine (drawOnChain HDD.out HDX.out a0 len0 cap0 _ hle0 (code_below2 HCode.out HB3.out)).mono ?_
    rintro e w4 ⟨v2, L2, ao2, cc2, C2, a, x, rfl, hD4, ha0, hx0⟩
    obtain ⟨g2, cp2, rfl, hcp2, hL4⟩ := drawn_liesC hD4
    have HM4 : Hid (LiesC w4 g2 L2 ao2 C2) := hL4
    have HL4 : Hid (LiesC w4 g L ao C) := HL3.out.below hD4.dr.bel
    have HB4 : Hid (Below w.heap.size w w4) := HB3.out.trans (hD4.dr.bel.mono HB3.out.size)
    have HF4 : Hid (Memb.Own w1.heap.size w4 fo fc (chainI L C k)) := Lst.own_below HF3.out hD4.dr.bel
    clear HL3 HB3 HF3 hD4 hL4
    have hcl := Ch.chainI_len (L := L) (C := C) (k := k)
    have hq61 := HL4.out.l.len
    have HOFF : Hid ((isB L k = false ∨ coinsB C = false) → chainI L C k = [] ∧ earlierI L C k = -1) := chain_off
    have HON : Hid (∀ q : Nat, k = (q : Int) → isB L (q : Int) = true → coinsB C = true → chainI L C k = chainL L C (q : Int) ∧ earlierI L C k = earlierN L C q) := fun q e h1 h2 => by subst e; exact chain_on h1 h2
    have hsA := Ch.specChainOf g 0 cp L ao cc C k w4 hcp HL4.out.l.words HL4.out.lt HL4.out.l.rd (by have := HL4.out.c.len; omega) HL4.out.c.rd HL4.out.c.at'
    have HEV : Hid (∀ W : World, LiesC W g L ao C → Calls Tryz.prog 11 #[.slice (some ⟨g, 0, none⟩) L.length cp, .slice ao C.length cc, .int .i64 k] W fun e w' => e = .returned (.int .i64 (earlierI L C k)) ∧ Below W.heap.size W w') := fun W hW => Ch.specEarlier g 0 cp L ao cc C k W hcp hW.l.words hW.lt hW.l.rd (by have := hW.c.len; omega) hW.c.rd hW.c.at'
    have HON1 : Hid (∀ W : World, LiesC W g2 L2 ao2 C2 → Calls Tryz.prog 12 #[.slice (some ⟨g2, 0, none⟩) L2.length cp2, .slice ao2 C2.length cc2, .int .i64 a, .int .i64 x] W fun e w' => e = .returned (.bool (onChainB L2 C2 a x)) ∧ Below W.heap.size W w') := fun W hW => H3.out g2 cp2 L2 ao2 cc2 C2 a x W hW ha0.1 ha0.2 hx0.1 hx0.2
    have HON2 : Hid (∀ W : World, LiesC W g2 L2 ao2 C2 → Calls Tryz.prog 13 #[.slice (some ⟨g2, 0, none⟩) L2.length cp2, .slice ao2 C2.length cc2, .int .i64 a, .int .i64 x] W fun e w' => e = .returned (.bool (onChainB L2 C2 a x)) ∧ Below W.heap.size W w') := fun W hW => Ch.specOnChain g2 0 cp2 L2 ao2 cc2 C2 a x W hcp2 hW.l.words hW.lt hW.l.rd (by have := hW.c.len; omega) hW.c.rd hW.c.at'
    generalize onChainB L2 C2 a x = ob at HON1 HON2
    generalize earlierI L C k = ev at HOFF HON HEV ⊢
    generalize chainI L C k = cl at HOFF HON hcl HF4 hsA ⊢
    go_upto_region 7 with fail
    go_cut [64] (fun bv wx => bv = .bool false ∧ Hid (LiesC wx g L ao C) ∧ Hid (Below w.heap.size w wx) ∧ Hid (Memb.Own w1.heap.size wx fo fc cl))
    case first =>
      as_aux_lemma =>
        go_wp2_with fail
        refine hsA.mono ?_
        rintro e w5 ⟨so, sc, rfl, hos, hb5⟩
        have HL5 : Hid (LiesC w5 g L ao C) := HL4.out.below hb5
        have HM5 : Hid (LiesC w5 g2 L2 ao2 C2) := HM4.out.below hb5
        have HB5 : Hid (Below w.heap.size w w5) := HB4.out.trans (hb5.mono HB4.out.size)
        have HF5 : Hid (Memb.Own w1.heap.size w5 fo fc cl) := Lst.own_below HF4.out hb5
        have hlk := Lst.alike cl fo so fc sc w5 (by omega) (Lst.own_rd HF5.out) (Lst.own_rd hos)
        clear HL4 HM4 HB4 HF4 hb5 hos hsA
        go_wp2_with fail
        refine hlk.mono ?_
        rintro e w6 ⟨rfl, n6, rfl⟩
        have hb6 : Below w5.heap.size w5 (w5.drewN n6) := Db.below_drewN (Below.refl _ w5) n6
        have HL6 : Hid (LiesC (w5.drewN n6) g L ao C) := HL5.out.below hb6
        have HM6 : Hid (LiesC (w5.drewN n6) g2 L2 ao2 C2) := HM5.out.below hb6
        have HB6 : Hid (Below w.heap.size w (w5.drewN n6)) := Db.below_drewN HB5.out n6
        have HF6 : Hid (Memb.Own w1.heap.size (w5.drewN n6) fo fc cl) := Lst.own_drewN HF5.out n6
        clear hlk HL5 HM5 HB5 HF5 hb6
        generalize w5.drewN n6 = V6 at HL6 HM6 HB6 HF6 ⊢
        go_wp2_with fail
        refine (HEV.out V6 HL6.out).mono ?_
        rintro e w7 ⟨rfl, hb7⟩
        have HL7 : Hid (LiesC w7 g L ao C) := HL6.out.below hb7
        have HM7 : Hid (LiesC w7 g2 L2 ao2 C2) := HM6.out.below hb7
        have HB7 : Hid (Below w.heap.size w w7) := HB6.out.trans (hb7.mono HB6.out.size)
        have HF7 : Hid (Memb.Own w1.heap.size w7 fo fc cl) := Lst.own_below HF6.out hb7
        clear HL6 HM6 HB6 HF6 hb7
        go_wp2_with fail
        refine (HON1.out w7 HM7.out).mono ?_
        rintro e w8 ⟨rfl, hb8⟩
        have HL8 : Hid (LiesC w8 g L ao C) := HL7.out.below hb8
        have HM8 : Hid (LiesC w8 g2 L2 ao2 C2) := HM7.out.below hb8
        have HB8 : Hid (Below w.heap.size w w8) := HB7.out.trans (hb8.mono HB7.out.size)
        have HF8 : Hid (Memb.Own w1.heap.size w8 fo fc cl) := Lst.own_below HF7.out hb8
        clear HL7 HM7 HB7 HF7 hb8
        go_wp2_with fail
        refine (HON2.out w8 HM8.out).mono ?_
        rintro e w9 ⟨rfl, hb9⟩
        have HL9 : Hid (LiesC w9 g L ao C) := HL8.out.below hb9
        have HB9 : Hid (Below w.heap.size w w9) := HB8.out.trans (hb9.mono HB8.out.size)
        have HF9 : Hid (Memb.Own w1.heap.size w9 fo fc cl) := Lst.own_below HF8.out hb9
        clear HL8 HM8 HB8 HF8 hb9
        go_wp2_with fail
        go_meet
        exact ⟨by simp, HL9, HB9, HF9⟩
    case rest =>
      obtain ⟨rfl, HL, HB, HF⟩ := hcut
      clear HL4 HB4 HF4 HM4 hsA HEV HON1 HON2
      have hbc := Sg.specBelow g 0 cp L k wc hcp HL.out.l.words HL.out.l.rd
      cases hib : isB L k
      · obtain ⟨rfl, rfl⟩ := HOFF.out (.inl hib)
        rw [show belowI L k = -1 by unfold Sg.belowI; rw [hib]; rfl] at hbc
        clear HOFF HON
        go_wp2_with fail
        refine hbc.mono ?_
        rintro e w10 ⟨rfl, hb10⟩
        have HB10 : Hid (Below w.heap.size w w10) := HB.out.trans (hb10.mono HB.out.size)
        clear hbc hb10 HB HL HF
        go_wp2
        go_ret
        exact ⟨by simp, HB10.out⟩
      · obtain ⟨k1, k2, hlc⟩ := Sg.isB_parts hib
        obtain ⟨q, rfl⟩ := Int.eq_ofNat_of_zero_le k1
        have hq : q < L.length := by omega
        have h60 := ((Lc.lace_iff L).1 hlc).1
        have hbd := Sg.bel_bd L q (by omega)
        have hbel : belowI L (q : Int) = bel L q := by unfold Sg.belowI; rw [hib, Int.toNat_natCast]; rfl
        rw [hbel] at hbc
        have hbn : ¬ bel L q < 0 := by omega
        clear hbel
        generalize bel L q = bq at hbc hbn
        go_wp2_with fail
        refine hbc.mono ?_
        rintro e w10 ⟨rfl, hb10⟩
        have HL10 : Hid (LiesC w10 g L ao C) := HL.out.below hb10
        have HB10 : Hid (Below w.heap.size w w10) := HB.out.trans (hb10.mono HB.out.size)
        have HF10 : Hid (Memb.Own w1.heap.size w10 fo fc cl) := Lst.own_below HF.out hb10
        clear hbc hb10 HB HL HF
        have hck := specCoinsOk ao cc C w10 (by have := HL10.out.c.len; omega) HL10.out.c.rd
        cases hcb : coinsB C
        · obtain ⟨rfl, rfl⟩ := HOFF.out (.inr hcb)
          rw [hcb] at hck
          clear HOFF HON
          go_wp2_with fail
          refine hck.mono ?_
          rintro e w11 ⟨rfl, rfl⟩
          clear hck HL10 HF10
          go_wp2
          go_ret
          exact ⟨by simp, HB10.out⟩
        · obtain ⟨hcl1, hev1⟩ := HON.out q rfl hib hcb
          rw [hcb] at hck
          have HCL : Hid (cl = chainL L C (q : Int)) := hcl1
          have HEE : Hid (ev = earlierN L C q) := hev1
          have HLC : Hid (laceB L = true) := hlc
          have HNE : Hid (0 < cl.length) := by rw [hcl1]; exact Ch.chain_ne L C q
          have HLST : Hid (cl.getD (cl.length - 1) 0 = (q : Int)) := by show _ = _; rw [hcl1]; exact Ch.chain_last L C q
          have HBEF : Hid ((cl.length = 1 ∧ ev = -1) ∨ (1 < cl.length ∧ cl.getD (cl.length - 2) 0 = ev)) := by show _ ∨ _; rw [hcl1, hev1]; exact Ch.chain_before L C q
          have HLNK : Hid (∀ i, 0 < i → i < cl.length → ∃ x y, Ch.Link L C cl i x y) := fun i h0 hi => by rw [hcl1] at hi ⊢; exact Ch.chain_links hlc C q hq i h0 hi
          have HBST : Hid (∀ y : Nat, y ≠ q → leadK C (at' L y) = true → sealN L q y = true → ∃ en : Nat, ev = (en : Int) ∧ en < L.length ∧ (at' L y).round ≤ (at' L en).round) := fun y h1 h2 h3 => by
            have hb := Ch.chain_best hlc hq h1 h2 h3
            have hlt := Ch.earlier_lt L C q
            rw [← hev1] at hb hlt
            obtain ⟨en, he⟩ := Int.eq_ofNat_of_zero_le hb.1
            rw [he, Int.toNat_natCast] at hb
            exact ⟨en, he, by omega, hb.2⟩
          clear HOFF HON hcl1 hev1 hlc
          go_wp2_with fail
          refine hck.mono ?_
          rintro e w11 ⟨rfl, rfl⟩
          clear hck
          go_upto_region 11 with fail
          go_cut [117] (fun bv wx => bv = .bool false ∧ Hid (LiesC wx g L ao C) ∧ Hid (Below w.heap.size w wx) ∧ Hid (Memb.Own w1.heap.size wx fo fc cl))
          case first =>
            have hne := HNE.out
            rcases Lst.own_rd HF10.out with e | ⟨fb, rfl, hcell⟩
            · rw [e] at hne; simp at hne
            have c1 := hcell (cl.length - 1) (by omega)
            rw [HLST.out] at c1
            rcases HBEF.out with ⟨h1, h2⟩ | ⟨h1, h2⟩
            · have g2' : ((cl.length : Int) == 0) = false := by rw [beq_eq_false_iff_ne]; omega
              have g3' : ((cl.length : Int) == 1) = true := by rw [beq_iff_eq]; omega
              have g1 : ¬ (1 : Int) < (cl.length : Int) := by omega
              have e1 : IntKind.i64.wrap ((cl.length : Int) - 1) = 0 := by rw [IntKind.wrap_i64]; omega
              have f1 : (0 : Int) < (cl.length : Int) := by omega
              rw [show cl.length - 1 = 0 by omega] at c1
              subst h2
              clear hcell h1 hne
              go_wp2_with fail
              go_meet
              exact ⟨by simp, HL10, HB10, HF10⟩
            · have c2 := hcell (cl.length - 2) (by omega)
              rw [h2] at c2
              have g1 : (1 : Int) < (cl.length : Int) := by omega
              have g2' : ((cl.length : Int) == 0) = false := by rw [beq_eq_false_iff_ne]; omega
              have g3' : ((cl.length : Int) == 1) = false := by rw [beq_eq_false_iff_ne]; omega
              obtain ⟨m, hm⟩ : ∃ m, cl.length = m + 2 := ⟨cl.length - 2, by omega⟩
              have e1 : IntKind.i64.wrap ((cl.length : Int) - 1) = ((m + 1 : Nat) : Int) := by rw [IntKind.wrap_i64]; omega
              have e2 : IntKind.i64.wrap ((cl.length : Int) - 2) = (m : Int) := by rw [IntKind.wrap_i64]; omega
              have f1 : ((m + 1 : Nat) : Int) < (cl.length : Int) := by omega
              have f2 : (m : Int) < (cl.length : Int) := by omega
              rw [show cl.length - 1 = m + 1 by omega] at c1
              rw [show cl.length - 2 = m by omega] at c2
              generalize m + 1 = m1 at e1 f1 c1
              clear hcell h2 hm hne h1
              go_wp2_with fail
              go_meet
              exact ⟨by simp, HL10, HB10, HF10⟩
          case rest =>
            obtain ⟨rfl, HLa, HBa, HFa⟩ := hcut
            clear HL10 HB10 HF10 HLST HBEF
            have hne := HNE.out
            have hca := own_cap HFa.out
            rcases Lst.own_rd HFa.out with e | ⟨fb, rfl, hcell⟩
            · rw [e] at hne; simp at hne
            have hfb : fb < wc.heap.size := own_at HFa.out fb rfl
            have HCE : Hid (∀ W : World, Below wc.heap.size wc W → ∀ j, j < cl.length → W.cell? ⟨fb, j, none⟩ = some (.int .i64 (cl.getD j 0))) := fun W hW j hj => (hW.cell (p := ⟨fb, j, none⟩) hfb).trans (hcell j hj)
            clear hcell hfb
            go_wp2
            go_loopw [12] (fun iv wr => ∃ i : Nat, 1 ≤ i ∧ i ≤ cl.length ∧ iv = .int .i64 (i : Int) ∧ Hid (Below wc.heap.size wc wr)) (fun iv _ => cl.length - (intOf iv).toNat)
            case atStart => exact ⟨1, by omega, by omega, rfl, Below.refl _ _⟩
            case round =>
              obtain ⟨i, hi1, hi, rfl, HBr⟩ := hrel
              by_cases hlt : i < cl.length
              · as_aux_lemma =>
                  obtain ⟨x', y', hK⟩ := HLNK.out i (by omega) hlt
                  have HLr : Hid (LiesC wr g L ao C) := HLa.out.below HBr.out
                  obtain ⟨j, rfl⟩ : ∃ j, i = j + 1 := ⟨i - 1, by omega⟩
                  have cy := HCE.out wr HBr.out (j + 1) hlt
                  have cx := HCE.out wr HBr.out j (by omega)
                  have hfb : fb < wr.heap.size := Nat.lt_of_lt_of_le (own_at HFa.out fb rfl) HBr.out.size
                  rw [hK.hy] at cy
                  rw [show cl.getD j 0 = (x' : Int) from hK.hx] at cx
                  have hx := hK.lx
                  have hy := hK.ly
                  have hxi : (x' : Int) < (L.length : Int) := by omega
                  have hyi : (y' : Int) < (L.length : Int) := by omega
                  obtain ⟨hgl, _, rx, _, _⟩ := HLr.out.l.rd.on x' hx
                  obtain ⟨_, _, ry, _, _⟩ := HLr.out.l.rd.on y' hy
                  rw [Nat.zero_add] at rx ry
                  have hge : decide ((at' L y').round ≤ (at' L x').round) = false := decide_eq_false (by have := hK.rd; omega)
                  have HC1 : Hid (∀ W : World, Below wr.heap.size wr W → Calls Tryz.prog 16 #[.slice (some ⟨g, 0, none⟩) L.length cp, .int .i64 (y' : Int), .int .i64 (x' : Int)] W fun e w' => e = .returned (.bool true) ∧ Below wr.heap.size wr w') := fun W hW => by
                    have hW2 := HLr.out.below hW
                    refine (Sl.specSeals g 0 cp L (y' : Int) (x' : Int) W hcp hW2.l.words hW2.l.rd).mono ?_
                    rintro e w' ⟨rfl, hb⟩
                    refine ⟨?_, hW.trans (hb.mono hW.size)⟩
                    unfold Sl.sealsB
                    rw [isB_nat HLC.out hx, isB_nat HLC.out hy, Int.toNat_natCast, Int.toNat_natCast, hK.sl]
                    rfl
                  have HC2 : Hid (∀ W : World, Below wr.heap.size wr W → Calls Tryz.prog 17 #[.slice (some ⟨g, 0, none⟩) L.length cp, .slice ao C.length cc, .int .i64 (x' : Int)] W fun e w' => e = .returned (.bool true) ∧ Below wr.heap.size wr w') := fun W hW => by
                    have hW2 := HLr.out.below hW
                    refine (Ch.specLeads g 0 cp L ao cc C (x' : Int) W hcp hW2.l.words hW2.l.rd (by have := hW2.c.len; omega) hW2.c.rd hW2.c.at').mono ?_
                    rintro e w' ⟨rfl, hb⟩
                    refine ⟨?_, hW.trans (hb.mono hW.size)⟩
                    unfold Ch.leadsB
                    rw [isB_nat HLC.out hx, hcb, Int.toNat_natCast, hK.ld]
                    rfl
                  have HC3 : Hid (∀ W : World, Below wr.heap.size wr W → Calls Tryz.prog 6 #[.slice (some ⟨g, 0, none⟩) L.length cp, .slice ao C.length cc, .int .i64 (x' : Int)] W fun e w' => ∃ ro rc, e = .returned (.slice ro (j + 1) rc) ∧ Lst.Rd w' ro (cl.take (j + 1)) ∧ Below wr.heap.size wr w') := fun W hW => by
                    refine (H1.out g cp L ao cc C (x' : Int) W (HLr.out.below hW) (by omega) (by omega)).mono ?_
                    rintro e w' ⟨ro, rc, rfl, ho, hb⟩
                    rw [(chain_on (isB_nat HLC.out hx) hcb).1, hK.tk] at ho ⊢
                    refine ⟨ro, rc, ?_, Lst.own_rd ho, hW.trans (hb.mono hW.size)⟩
                    rw [List.length_take, Nat.min_eq_left (by omega)]
                  have HC4 : Hid (∀ (W : World) (ro : Option Addr) (rc : Nat), Below wr.heap.size wr W → Lst.Rd W ro (cl.take (j + 1)) → Calls Tryz.prog 9 #[.slice ro (j + 1) rc, .slice (some ⟨fb, 0, none⟩) (j + 1) fc] W fun e w' => e = .returned (.bool true) ∧ Below wr.heap.size wr w') := fun W ro rc hW hR => by
                    have h1 := Lst.alike (cl.take (j + 1)) ro (some ⟨fb, 0, none⟩) rc fc W (by rw [List.length_take]; omega) hR (rd_take (HCE.out W (HBr.out.trans (hW.mono HBr.out.size))) (j + 1) (by omega))
                    rw [List.length_take, Nat.min_eq_left (by omega)] at h1
                    refine h1.mono ?_
                    rintro e w' ⟨rfl, n, rfl⟩
                    exact ⟨rfl, Db.below_drewN hW n⟩
                  clear hK
                  generalize (at' L x').round = vx at rx hge
                  generalize (at' L y').round = vy at ry hge
                  have e1 : IntKind.i64.wrap (((j + 1 : Nat) : Int) - 1) = (j : Int) := by rw [IntKind.wrap_i64]; omega
                  have f1 : (j : Int) < (cl.length : Int) := by omega
                  have f2 : ((j + 1 : Nat) : Int) < (cl.length : Int) := by omega
                  have f3 : ((j + 1 : Nat) : Int) ≤ (fc : Int) := by omega
                  have f4 : j + 1 ≤ fc := by omega
                  generalize hi' : j + 1 = i at *
                  have HSB : Hid (∀ W : World, Below wr.heap.size wr W → W.cell? ⟨fb, j, none⟩ = some (.int .i64 (x' : Int)) ∧ W.cell? ⟨fb, i, none⟩ = some (.int .i64 (y' : Int)) ∧ W.cell? ⟨g, x' * 4 + 1, none⟩ = some (.int .i64 vx) ∧ W.cell? ⟨g, y' * 4 + 1, none⟩ = some (.int .i64 vy)) := fun W hW =>
                    ⟨(hW.cell (p := ⟨fb, j, none⟩) hfb).trans cx, (hW.cell (p := ⟨fb, i, none⟩) hfb).trans cy, (hW.cell (p := ⟨g, x' * 4 + 1, none⟩) hgl).trans rx, (hW.cell (p := ⟨g, y' * 4 + 1, none⟩) hgl).trans ry⟩
                  go_wp2_with fail
                  go_region_held3 (fun W => W.cell? ⟨fb, j, none⟩ = some (.int .i64 (x' : Int)) ∧ W.cell? ⟨fb, i, none⟩ = some (.int .i64 (y' : Int)) ∧ W.cell? ⟨g, x' * 4 + 1, none⟩ = some (.int .i64 vx) ∧ W.cell? ⟨g, y' * 4 + 1, none⟩ = some (.int .i64 vy)) (first
                    | exact HSB.out _ B4 | exact HSB.out _ B3 | exact HSB.out _ B2 | exact HSB.out _ B1 | exact HSB.out _ (Below.refl _ _).drew | exact HSB.out _ (Below.refl _ _) | go_keep) (first
                    | (go_at_call 9
                       refine (HC4.out _ _ _ B3 R3).mono ?_
                       rintro e V4 ⟨rfl, B4⟩)
                    | (go_at_call 6
                       refine (HC3.out _ B2).mono ?_
                       rintro e V3 ⟨ro, rc, rfl, R3, B3⟩)
                    | (go_at_call 17
                       refine (HC2.out _ B1).mono ?_
                       rintro e V2 ⟨rfl, B2⟩)
                    | (go_at_call 16
                       refine (HC1.out _ (by first | exact (Below.refl _ _).drew | exact Below.refl _ _)).mono ?_
                       rintro e V1 ⟨rfl, B1⟩))
                  all_goals go_wp2
                  all_goals go_roundw
                  case rel => exact ⟨i + 1, by omega, by omega, by go_num, HBr.out.trans (B4.mono HBr.out.size)⟩
                  case measure => simp [intOf]; omega
              · obtain rfl : i = cl.length := by omega
                as_aux_lemma =>
                  have HLb : Hid (LiesC wr g L ao C) := HLa.out.below HBr.out
                  have HBb : Hid (Below w.heap.size w wr) := HBa.out.trans (HBr.out.mono HBa.out.size)
                  clear HLa HBa HFa HCE HLNK HBr
                  go_wp2
                  generalize wr = wA at HLb HBb ⊢
                  go_loopw [13] (fun iv wr => ∃ y : Nat, y ≤ L.length ∧ iv = .int .i64 (y : Int) ∧ Hid (Below wA.heap.size wA wr)) (fun iv _ => L.length - (intOf iv).toNat)
                  case atStart => exact ⟨0, by omega, rfl, Below.refl _ _⟩
                  case round =>
                    obtain ⟨y, hy, rfl, HBr⟩ := hrel
                    by_cases hlt : y < L.length
                    · have hyi : (y : Int) < (L.length : Int) := by omega
                      have HLr : Hid (LiesC wr g L ao C) := HLb.out.below HBr.out
                      have HA2 : Hid (∀ W : World, LiesC W g L ao C → Calls Tryz.prog 17 #[.slice (some ⟨g, 0, none⟩) L.length cp, .slice ao C.length cc, .int .i64 (y : Int)] W fun e w' => e = .returned (.bool (leadsB L C (y : Int))) ∧ Below W.heap.size W w') := fun W hW => Ch.specLeads g 0 cp L ao cc C (y : Int) W hcp hW.l.words hW.l.rd (by have := hW.c.len; omega) hW.c.rd hW.c.at'
                      have HA3 : Hid (∀ W : World, LiesC W g L ao C → Calls Tryz.prog 16 #[.slice (some ⟨g, 0, none⟩) L.length cp, .int .i64 (q : Int), .int .i64 (y : Int)] W fun e w' => e = .returned (.bool (sealsB L (q : Int) (y : Int))) ∧ Below W.heap.size W w') := fun W hW => Sl.specSeals g 0 cp L (q : Int) (y : Int) W hcp hW.l.words hW.l.rd
                      by_cases hyq : y = q
                      · subst hyq
                        have hn1 : ((y : Int) != (y : Int)) = false := by simp
                        clear HBST
                        obtain ⟨X, _, F, HF, HG⟩ := Fam.fam wr
                        go_wp2_with fail
                        refine Fam.region (F := F) (by kernel_rfl) (by kernel_rfl) (HG.out _ (Below.refl _ wr).drew) ?_
                        repeat (go_big_quiet_step (first
                          | (go_at_call 17; exact (HA2.out _ (HLr.out.below (HF.out _))).mono fun _ _ h => ⟨h.1, HG.out _ ((HF.out _).trans (h.2.mono (HF.out _).size))⟩)
                          | (go_at_call 16; exact (HA3.out _ (HLr.out.below (HF.out _))).mono fun _ _ h => ⟨h.1, HG.out _ ((HF.out _).trans (h.2.mono (HF.out _).size))⟩)))
                        refine wpQuiet_nil ?_
                        intro w8 hw8
                        obtain ⟨z, rfl⟩ := hw8
                        have HB8 : Hid (Below wA.heap.size wA (F z)) := HBr.out.trans ((HF.out z).mono HBr.out.size)
                        go_wp2
                        go_roundw
                        case rel => exact ⟨y + 1, by omega, by go_num, HB8⟩
                        case measure => simp [intOf]; omega
                      · have hn1 : ((y : Int) != (q : Int)) = true := by simp; omega
                        cases h2 : leadsB L C (y : Int)
                        · rw [h2] at HA2
                          clear HBST h2
                          obtain ⟨X, _, F, HF, HG⟩ := Fam.fam wr
                          go_wp2_with fail
                          refine Fam.region (F := F) (by kernel_rfl) (by kernel_rfl) (HG.out _ (Below.refl _ wr).drew) ?_
                          repeat (go_big_quiet_step (first
                            | (go_at_call 17; exact (HA2.out _ (HLr.out.below (HF.out _))).mono fun _ _ h => ⟨h.1, HG.out _ ((HF.out _).trans (h.2.mono (HF.out _).size))⟩)
                            | (go_at_call 16; exact (HA3.out _ (HLr.out.below (HF.out _))).mono fun _ _ h => ⟨h.1, HG.out _ ((HF.out _).trans (h.2.mono (HF.out _).size))⟩)))
                          refine wpQuiet_nil ?_
                          intro w8 hw8
                          obtain ⟨z, rfl⟩ := hw8
                          have HB8 : Hid (Below wA.heap.size wA (F z)) := HBr.out.trans ((HF.out z).mono HBr.out.size)
                          go_wp2
                          go_roundw
                          case rel => exact ⟨y + 1, by omega, by go_num, HB8⟩
                          case measure => simp [intOf]; omega
                        · cases h3 : sealsB L (q : Int) (y : Int)
                          · rw [h2] at HA2
                            rw [h3] at HA3
                            clear HBST h2 h3
                            obtain ⟨X, _, F, HF, HG⟩ := Fam.fam wr
                            go_wp2_with fail
                            refine Fam.region (F := F) (by kernel_rfl) (by kernel_rfl) (HG.out _ (Below.refl _ wr).drew) ?_
                            repeat (go_big_quiet_step (first
                              | (go_at_call 17; exact (HA2.out _ (HLr.out.below (HF.out _))).mono fun _ _ h => ⟨h.1, HG.out _ ((HF.out _).trans (h.2.mono (HF.out _).size))⟩)
                              | (go_at_call 16; exact (HA3.out _ (HLr.out.below (HF.out _))).mono fun _ _ h => ⟨h.1, HG.out _ ((HF.out _).trans (h.2.mono (HF.out _).size))⟩)))
                            refine wpQuiet_nil ?_
                            intro w8 hw8
                            obtain ⟨z, rfl⟩ := hw8
                            have HB8 : Hid (Below wA.heap.size wA (F z)) := HBr.out.trans ((HF.out z).mono HBr.out.size)
                            go_wp2
                            go_roundw
                            case rel => exact ⟨y + 1, by omega, by go_num, HB8⟩
                            case measure => simp [intOf]; omega
                          · obtain ⟨en, hee, hen, hle⟩ := HBST.out y hyq (by unfold Ch.leadsB at h2; rw [Int.toNat_natCast] at h2; simp only [Bool.and_eq_true] at h2; exact h2.2.2) (by unfold Sl.sealsB at h3; rw [Int.toNat_natCast, Int.toNat_natCast] at h3; simp only [Bool.and_eq_true] at h3; exact h3.2.2)
                            rw [h2] at HA2
                            rw [h3] at HA3
                            subst hee
                            obtain ⟨hgl, _, ry, _, _⟩ := HLr.out.l.rd.on y hlt
                            obtain ⟨_, _, re, _, _⟩ := HLr.out.l.rd.on en hen
                            rw [Nat.zero_add] at ry re
                            have hgt : decide ((at' L en).round < (at' L y).round) = false := decide_eq_false (by omega)
                            have hei : (en : Int) < (L.length : Int) := by omega
                            have he0 : ¬ (en : Int) < 0 := by omega
                            have he1 : decide ((en : Int) < 0) = false := decide_eq_false he0
                            clear HBST h2 h3 hle
                            generalize (at' L y).round = vy at ry hgt
                            generalize (at' L en).round = ve at re hgt
                            obtain ⟨X, _, F, HF, HG⟩ := Fam.fam wr
                            have hc1 : ∀ z, (F z).cell? ⟨g, y * 4 + 1, none⟩ = some (.int .i64 vy) := fun z => ((HF.out z).cell (p := ⟨g, y * 4 + 1, none⟩) hgl).trans ry
                            have hc2 : ∀ z, (F z).cell? ⟨g, en * 4 + 1, none⟩ = some (.int .i64 ve) := fun z => ((HF.out z).cell (p := ⟨g, en * 4 + 1, none⟩) hgl).trans re
                            clear ry re
                            go_wp2_with fail
                            refine Fam.region (F := F) (by kernel_rfl) (by kernel_rfl) (HG.out _ (Below.refl _ wr).drew) ?_
                            repeat (go_big_quiet_step (first
                              | (go_at_call 17; exact (HA2.out _ (HLr.out.below (HF.out _))).mono fun _ _ h => ⟨h.1, HG.out _ ((HF.out _).trans (h.2.mono (HF.out _).size))⟩)
                              | (go_at_call 16; exact (HA3.out _ (HLr.out.below (HF.out _))).mono fun _ _ h => ⟨h.1, HG.out _ ((HF.out _).trans (h.2.mono (HF.out _).size))⟩)))
                            refine wpQuiet_nil ?_
                            intro w8 hw8
                            obtain ⟨z, rfl⟩ := hw8
                            have HB8 : Hid (Below wA.heap.size wA (F z)) := HBr.out.trans ((HF.out z).mono HBr.out.size)
                            go_wp2
                            go_roundw
                            case rel => exact ⟨y + 1, by omega, by go_num, HB8⟩
                            case measure => simp [intOf]; omega
                    · obtain rfl : y = L.length := by omega
                      have HBZ : Hid (Below w.heap.size w wr) := HBb.out.trans (HBr.out.mono HBb.out.size)
                      go_wp2
                      go_ret
                      exact ⟨rfl, HBZ.out⟩

end Rm
end Go.Proofs.YthdjfmndakeaiaaGreat
