/-
  FnFresh answers true at every code: what is fresh is below, not below the one before, and no two of it are doubled; no condition.
  What the law on order answers, where the drawing of a room keeps its word and the program's Ordered and Respects answer as they should: true at every code.
  What the law on what is fresh answers, where the drawing of a room keeps its word and the program's FreshOf answers as it should: true at every code.
  The drawing of a room keeps its word.
-/
import Derived.Test.YtmnkankjblnjaaaGreatOrZb
import Derived.Test.YtmnkankjblnjaaaGreatFam
import Derived.Test.YtmnkankjblnjaaaGreatOrZa
import Derived.Test.YtmnkankjblnjaaaGreatRoomXm
import Derived.Test.YtmnkankjblnjaaaGreatRows
import Derived.WalkKit
import Derived.ProofKit
import Derived.OpenShut
import Derived.ChangeOld
import Derived.Below
import Derived.Test.YtmnkankjblnjaaaGreatOrZc
namespace Go.Proofs.YtmnkankjblnjaaaGreat
open Go.RowKit
set_option maxRecDepth 100000
set_option linter.unusedVariables false
namespace Rm
open Kn (K okK)
open Bit (bit memTo)
open Lc (at' RdK laceB setB)
open Sg (bel isB NumsPost)
open Tl (orderedI respB seenF)

def ImplOrdered : Prop := ∀ (g cap : Nat) (L : List K) (s : Int) (w : World), LiesS w g L → g < w.heap.size → -9223372036854775808 ≤ s → s ≤ 9223372036854775807 →
    Calls Tryz.prog 7 #[.slice (some ⟨g, 0, none⟩) L.length cap, .int .i64 s] w (NumsPost (orderedI L s) w)
def ImplRespects : Prop := ∀ (g cap : Nat) (L : List K) (ao : Option Addr) (cc : Nat) (X : List Int) (w : World), LiesS w g L → g < w.heap.size → X.length ≤ 1048576 → (∀ z ∈ X, -9223372036854775808 ≤ z ∧ z ≤ 9223372036854775807) → Lst.Rd w ao X → (∀ c, ao = some ⟨c, 0, none⟩ → c < w.heap.size) →
    Calls Tryz.prog 11 #[.slice (some ⟨g, 0, none⟩) L.length cap, .slice ao X.length cc] w fun e w' => e = .returned (.bool (respB L X)) ∧ Below w.heap.size w w'

theorem drawn_liesG {B : Nat} {w w' : World} {v : Value} {L : List K} (h : Drawn B w w' v L) : ∃ g cp, v = .slice (some ⟨g, 0, none⟩) L.length cp ∧ L.length ≤ cp ∧ LiesS w' g L ∧ g < w'.heap.size := by
  obtain ⟨g, cp, rfl, hcp, _, _, hlt, hrd, _⟩ := Lc.ownK_shape h.own
  exact ⟨g, cp, rfl, hcp, ⟨hrd, h.len, fun k hk => by have := h.word k hk; omega⟩, hlt⟩
theorem own_at2 {B : Nat} {w : World} {ao : Option Addr} {cap : Nat} {l : List Int} (h : Memb.Own B w ao cap l) : ∀ c, ao = some ⟨c, 0, none⟩ → c < w.heap.size := fun c e => by subst e; exact (World.ownsRow.lt h c rfl).2

/-- a list of knots, a list of numbers of the call's own -/
structure LoO (w wx : World) (B g : Nat) (L : List K) (fo : Option Addr) (fc : Nat) (l : List Int) : Prop where
  lies : LiesS wx g L
  lt : g < wx.heap.size
  own : Memb.Own B wx fo fc l
  bel : Below w.heap.size w wx
theorem LoO.below {w wx w' : World} {B g : Nat} {L : List K} {fo : Option Addr} {fc : Nat} {l : List Int} (h : LoO w wx B g L fo fc l) (hb : Below wx.heap.size wx w') : LoO w w' B g L fo fc l :=
  ⟨h.lies.below hb, Nat.lt_of_lt_of_le h.lt hb.size, Lst.own_below h.own hb, h.bel.trans (hb.mono h.bel.size)⟩
theorem LoO.drewN {w wx : World} {B g : Nat} {L : List K} {fo : Option Addr} {fc : Nat} {l : List Int} (h : LoO w wx B g L fo fc l) (n : Nat) : LoO w (wx.drewN n) B g L fo fc l := h.below (Db.below_drewN (Below.refl _ wx) n)
theorem LoO.alloc {w wx : World} {B g : Nat} {L : List K} {fo : Option Addr} {fc : Nat} {l : List Int} (h : LoO w wx B g L fo fc l) (o : Obj) : LoO w (wx.alloc o) B g L fo fc l := h.below ((Below.refl _ wx).alloc (Nat.le_refl _) o)
theorem LoO.cell {w wx : World} {B g : Nat} {L : List K} {fo : Option Addr} {fc : Nat} {l : List Int} (h : LoO w wx B g L fo fc l) (h0 : 0 < l.length) : ∃ fb, fo = some ⟨fb, 0, none⟩ ∧ ∀ j, j < l.length → wx.cell? ⟨fb, j, none⟩ = some (.int .i64 (l.getD j 0)) := by
  rcases Lst.own_rd h.own with e | ⟨fb, rfl, hc⟩
  · rw [e] at h0; simp at h0
  · exact ⟨fb, rfl, hc⟩

theorem new4 (W : World) (h r f : Int) (s : ByteArray) (t : TypeId) : (W.alloc (.cells #[.int .i64 h, .int .i64 r, .int .i64 f, .string s] t)).cell? ⟨W.heap.size, 0, none⟩ = some (.int .i64 h) ∧ (W.alloc (.cells #[.int .i64 h, .int .i64 r, .int .i64 f, .string s] t)).cell? ⟨W.heap.size, 1, none⟩ = some (.int .i64 r) := ⟨by simp, by simp⟩
/-- what the law asks of what is in order -/
structure OrdIs (L : List K) (s : Int) (l : List Int) : Prop where
  len : l.length ≤ 60
  lace : laceB L = true
  at' : ∀ i, i < l.length → ∃ j : Nat, l.getD i 0 = (j : Int) ∧ j < L.length
  next : ∀ i, 0 < i → i < l.length → ∃ a b : Nat, l.getD (i - 1) 0 = (a : Int) ∧ l.getD i 0 = (b : Int) ∧ a < L.length ∧ b < L.length ∧
      ((Lc.at' L a).round < (Lc.at' L b).round ∨ ((Lc.at' L a).round = (Lc.at' L b).round ∧ ((Lc.at' L a).hand < (Lc.at' L b).hand ∨ ((Lc.at' L a).hand = (Lc.at' L b).hand ∧ a < b))))
  all : seenF l = s
  step : ∀ i, i < l.length → Base.withI (seenF (l.take i)) (l.getD i 0) = seenF (l.take (i + 1))
  resp : respB L l = true
theorem ord_is {L : List K} {s : Int} (h : setB L s = true) : OrdIs L s (orderedI L s) := by
  obtain ⟨hl, h0, h1, hd, h60, _⟩ := Lc.setB_parts h
  have hin : ∀ i, bit s i = true → i < L.length := fun i hi => by
    apply Classical.byContradiction
    intro hge
    have := Bit.bit_up s L.length (i - L.length) hd
    rw [show L.length + (i - L.length) = i by omega, hi] at this
    exact Bool.noConfusion this
  have e : orderedI L s = Tl.ordL L (memTo s 60) := by unfold Tl.orderedI; rw [if_pos h]
  have hmem : ∀ i, i < (Tl.ordL L (memTo s 60)).length → ∃ j : Nat, (Tl.ordL L (memTo s 60)).getD i 0 = (j : Int) ∧ j < L.length := fun i hi => by
    have := (Tl.mem_ord L _ _).1 (Tl.getD_mem _ i hi)
    obtain ⟨j, _, ej, hb⟩ := (Bit.mem_memTo s 60 _).1 this
    exact ⟨j, ej, hin j hb⟩
  have hlen : (Tl.ordL L (memTo s 60)).length ≤ 60 := by rw [Tl.ord_len]; exact Bit.memTo_le s 60
  rw [e]
  refine ⟨hlen, hl, hmem, fun i hi0 hi => ?_, Tl.ord_all L h0 h1, fun i hi => ?_, Tl.resp_pair hl (fun x hx => Tl.mem_range60 hin x ((Tl.mem_ord L _ _).1 hx)) (Tl.ord_pair hl _ (Tl.memTo_nodup _ _) (Tl.mem_range60 hin))⟩
  · obtain ⟨a, b, ea, eb, ba, bb, hr⟩ := Tl.ord_next L s hi0 hi
    exact ⟨a, b, ea, eb, hin a ba, hin b bb, hr⟩
  · obtain ⟨j, ej, hj⟩ := hmem i hi
    have hall : ∀ a ∈ (Tl.ordL L (memTo s 60)).take i, 0 ≤ a ∧ a < 60 := fun a ha => by
      have := Tl.mem_range60 hin a ((Tl.mem_ord L _ _).1 (List.mem_of_mem_take ha))
      omega
    obtain ⟨hb, _⟩ := Tl.seenF_bits _ hall
    have et : (Tl.ordL L (memTo s 60)).take (i + 1) = (Tl.ordL L (memTo s 60)).take i ++ [(Tl.ordL L (memTo s 60)).getD i 0] := by
      rw [List.take_add_one, List.getElem?_eq_getElem hi, Tl.getD_get _ i hi]; rfl
    rw [et, Tl.seenF_snoc, ej, Int.toNat_natCast]
    unfold Base.withI
    rw [(Base.okB_iff _).2 hb, (Base.inB_iff _).2 ⟨by omega, by omega⟩]; simp
theorem ord_no {L : List K} {s : Int} (h : setB L s = false) : orderedI L s = [] ∧ Lc.handsOfI L s = -1 := by
  unfold Tl.orderedI Lc.handsOfI; rw [h]; exact ⟨rfl, rfl⟩
theorem ord_yes {L : List K} {s : Int} (h : setB L s = true) : 0 ≤ Lc.handsOfI L s := by
  unfold Lc.handsOfI; rw [h, if_pos rfl]; exact (Lc.handsN_bd L s).1

set_option maxHeartbeats 6400000 in
theorem orderedWalk (HI1 : ImplOrdered) (HI2 : ImplRespects) (HD : DrawsRoom) (a0 : Option Addr) (len0 cap0 : Nat) (w : World) (hcode : Cur.Code w a0 len0) :
    Calls Tryz.prog 3 #[.slice a0 len0 cap0] w fun e w' => e = .returned (.bool true) ∧ Below w.heap.size w w' := by
  by_cases hbig : 4096 < len0
  · have hb' : (4096 : Int) < (len0 : Int) := by omega
    go_enter Tryz.func3, Tryz.ntmps3
    go_wp2
    go_ret
    exact ⟨rfl, Below.refl _ _⟩
  · have hb' : ¬ (4096 : Int) < (len0 : Int) := by omega
    have hle0 : len0 ≤ 4096 := by omega
    have HDD : Hid DrawsRoom := HD
    have H1 : Hid ImplOrdered := HI1
    have H2 : Hid ImplRespects := HI2
    have HCode : Hid (Cur.Code w a0 len0) := hcode
    clear hbig HD hcode HI1 HI2
    go_enter Tryz.func3, Tryz.ntmps3
    go_wp2_with (first | (go_at_call 5; go_in) | fail)
    refine (drawOrdered HDD.out a0 len0 cap0 _ hle0 HCode.out).mono ?_
    rintro e w1 ⟨v, L, s, rfl, hD1, hs0⟩
    obtain ⟨g, cp, rfl, hcp, hL1, hg1⟩ := drawn_liesG hD1
    have HB1 : Hid (Below w.heap.size w w1) := hD1.bel
    clear hD1
    go_wp2_with fail
    refine (H1.out g cp L s _ hL1 hg1 hs0.1 hs0.2).mono ?_
    rintro e w2 ⟨fo, fc, rfl, hof, hb2⟩
    have HS2 : Hid (LoO w w2 w1.heap.size g L fo fc (orderedI L s)) := ⟨hL1.below hb2, Nat.lt_of_lt_of_le hg1 hb2.size, hof, HB1.out.trans (hb2.mono HB1.out.size)⟩
    clear hL1 hg1 hb2 hof HB1
    go_wp2_with fail
    refine (drawRespects HDD.out a0 len0 cap0 _ hle0 (code_below2 HCode.out HS2.out.bel)).mono ?_
    rintro e w3 ⟨v2, L2, ao2, cc2, X2, rfl, hD3, ho3, hz3, hx3⟩
    obtain ⟨g2, cp2, rfl, hcp2, hL3, hg3⟩ := drawn_liesG hD3
    have HS3 : Hid (LoO w w3 w1.heap.size g L fo fc (orderedI L s)) := HS2.out.below hD3.bel
    have HM3 : Hid (LoO w w3 w2.heap.size g2 L2 ao2 cc2 X2) := ⟨hL3, hg3, ho3, HS3.out.bel⟩
    have HZ3 : Hid (∀ z ∈ X2, -9223372036854775808 ≤ z ∧ z ≤ 9223372036854775807) := hz3
    clear HS2 hD3 ho3 hz3 hL3 hg3 HCode
    have hsA := Tl.specOrdered g 0 cp L s w3 hcp HS3.out.lies.words HS3.out.lies.rd
    have HR1 : Hid (∀ (W : World), LoO w W w2.heap.size g2 L2 ao2 cc2 X2 → Calls Tryz.prog 11 #[.slice (some ⟨g2, 0, none⟩) L2.length cp2, .slice ao2 X2.length cc2] W fun e w' => e = .returned (.bool (respB L2 X2)) ∧ Below W.heap.size W w') := fun W h => H2.out g2 cp2 L2 ao2 cc2 X2 W h.lies h.lt (by omega) HZ3.out (Lst.own_rd h.own) (own_at2 h.own)
    have HR2 : Hid (∀ (W : World), LoO w W w2.heap.size g2 L2 ao2 cc2 X2 → Calls Tryz.prog 12 #[.slice (some ⟨g2, 0, none⟩) L2.length cp2, .slice ao2 X2.length cc2] W fun e w' => e = .returned (.bool (respB L2 X2)) ∧ Below W.heap.size W w') := fun W h => Tl.specRespects g2 0 cp2 L2 ao2 cc2 X2 W hcp2 h.lies.words h.lt h.lies.rd (by omega) HZ3.out (Lst.own_rd h.own) (own_at2 h.own)
    have HSH : Hid (∀ (W : World), LiesS W g L → Calls Tryz.prog 13 #[.slice (some ⟨g, 0, none⟩) L.length cp, .int .i64 s] W fun e w' => e = .returned (.int .i64 (Lc.handsOfI L s)) ∧ Below W.heap.size W w') := fun W h => Lc.specHandsOf g 0 cp L s W hcp h.words h.rd
    have HNO : Hid (setB L s = false → orderedI L s = [] ∧ Lc.handsOfI L s = -1) := ord_no
    have HYS : Hid (setB L s = true → OrdIs L s (orderedI L s) ∧ 0 ≤ Lc.handsOfI L s) := fun h => ⟨ord_is h, ord_yes h⟩
    have hlen := Tl.orderedI_len L s
    generalize respB L2 X2 = rb at HR1 HR2
    generalize orderedI L s = ol at HS3 hsA HNO HYS hlen ⊢
    generalize Lc.handsOfI L s = hn at HSH HNO HYS
    go_upto_region 6 with fail
    go_cut [41] (fun bv wx => bv = .bool false ∧ Hid (LoO w wx w1.heap.size g L fo fc ol))
    case first =>
      go_wp2_with fail
      refine hsA.mono ?_
      rintro e w5 ⟨so, sc, rfl, hos, hb5⟩
      have HS5 : Hid (LoO w w5 w1.heap.size g L fo fc ol) := HS3.out.below hb5
      have HM5 : Hid (LoO w w5 w2.heap.size g2 L2 ao2 cc2 X2) := HM3.out.below hb5
      have hlk := Lst.alike ol fo so fc sc w5 (by omega) (Lst.own_rd HS5.out.own) (Lst.own_rd hos)
      clear HS3 HM3 hb5 hos hsA
      go_wp2_with fail
      refine hlk.mono ?_
      rintro e w6 ⟨rfl, n6, rfl⟩
      have HS6 : Hid (LoO w (w5.drewN n6) w1.heap.size g L fo fc ol) := HS5.out.drewN n6
      have HM6 : Hid (LoO w (w5.drewN n6) w2.heap.size g2 L2 ao2 cc2 X2) := HM5.out.drewN n6
      clear hlk HS5 HM5
      generalize w5.drewN n6 = V6 at HS6 HM6 ⊢
      go_wp2_with fail
      refine (HR1.out V6 HM6.out).mono ?_
      rintro e w7 ⟨rfl, hb7⟩
      have HS7 : Hid (LoO w w7 w1.heap.size g L fo fc ol) := HS6.out.below hb7
      have HM7 : Hid (LoO w w7 w2.heap.size g2 L2 ao2 cc2 X2) := HM6.out.below hb7
      clear HS6 HM6 hb7
      go_wp2_with fail
      refine (HR2.out w7 HM7.out).mono ?_
      rintro e w8 ⟨rfl, hb8⟩
      have HS8 : Hid (LoO w w8 w1.heap.size g L fo fc ol) := HS7.out.below hb8
      clear HS7 HM7 hb8
      cases rb
      · go_wp2_with fail
        go_meet
        exact ⟨rfl, HS8⟩
      · go_wp2_with fail
        go_meet
        exact ⟨rfl, HS8⟩
    case rest =>
      clear HS3 HM3 HR1 HR2 hsA HZ3
      obtain ⟨rfl, HS8⟩ := hcut
      go_wp2_with fail
      refine (HSH.out _ HS8.out.lies).mono ?_
      rintro e w9 ⟨rfl, hb9⟩
      have HS9 : Hid (LoO w w9 w1.heap.size g L fo fc ol) := HS8.out.below hb9
      clear HS8 hb9 HSH
      cases hset : setB L s
      · obtain ⟨rfl, rfl⟩ := HNO.out hset
        clear HNO HYS hset
        go_wp2
        go_ret
        exact ⟨rfl, HS9.out.bel⟩
      · obtain ⟨hO, hn0⟩ := HYS.out hset
        have HO : Hid (OrdIs L s ol) := hO
        have hn0' : ¬ hn < 0 := by omega
        clear HNO HYS hset hO
        go_wp2_with fail
        go_loopw [8, 9] (fun av iv wx => ∃ i : Nat, i ≤ ol.length ∧ iv = .int .i64 i ∧ av = .int .i64 (seenF (ol.take i)) ∧ Hid (LoO w wx w1.heap.size g L fo fc ol)) (fun _ iv _ => ol.length - (intOf iv).toNat)
        case atStart => exact ⟨0, by omega, rfl, rfl, HS9⟩
        case round =>
          obtain ⟨i, hi, rfl, rfl, HS⟩ := hrel
          clear HS9
          by_cases hlt : i < ol.length
          · obtain ⟨fb, rfl, hrow⟩ := HS.out.cell (by omega)
            have hlti : (i : Int) < (ol.length : Int) := by omega
            have HST : Hid (Base.withI (seenF (ol.take i)) (ol.getD i 0) = seenF (ol.take (i + 1))) := HO.out.step i hlt
            have ci := hrow i hlt
            by_cases h0 : 0 < i
            · have h0i : (0 : Int) < (i : Int) := by omega
              have hi1 : ((i - 1 : Nat) : Int) = (i : Int) - 1 := by omega
              have hw1 : IntKind.i64.wrap ((i : Int) - 1) = (i : Int) - 1 := by rw [IntKind.wrap_i64]; omega
              obtain ⟨a, b, ea, eb, ha, hb, hr⟩ := HO.out.next i h0 hlt
              have cp1 := hrow (i - 1) (by omega)
              rw [ea] at cp1
              rw [eb] at ci HST
              obtain ⟨hga, k0, k1, k2, k3⟩ := HS.out.lies.rd.on a ha
              obtain ⟨hgb, q0, q1, q2, q3⟩ := HS.out.lies.rd.on b hb
              simp only [Nat.zero_add] at k0 k1 k2 k3 q0 q1 q2 q3
              have hai : (a : Int) < (L.length : Int) := by omega
              have hbi : (b : Int) < (L.length : Int) := by omega
              generalize seenF (ol.take i) = acc at HST ⊢
              generalize hac : seenF (ol.take (i + 1)) = acc2 at HST
              have HAC : Hid (seenF (ol.take (i + 1)) = acc2) := hac
              have hgw := HS.out.lt
              have hbw : fb < wr.heap.size := own_at2 HS.out.own fb rfl
              clear hac hrow ea eb
              generalize Lc.at' L a = ka at k0 k1 k2 k3 hr
              generalize Lc.at' L b = kb at q0 q1 q2 q3 hr
              obtain ⟨ah, ar, af, aw⟩ := ka
              obtain ⟨bh, br, bf, bw⟩ := kb
              dsimp only at k0 k1 k2 k3 q0 q1 q2 q3 hr
              have PV : Hid (LoO w ((wr.alloc (.cells #[.int .i64 ah, .int .i64 ar, .int .i64 af, .string aw] 36)).alloc (.cells #[.int .i64 bh, .int .i64 br, .int .i64 bf, .string bw] 36)) w1.heap.size g L (some ⟨fb, 0, none⟩) fc ol ∧
                  ((wr.alloc (.cells #[.int .i64 ah, .int .i64 ar, .int .i64 af, .string aw] 36)).alloc (.cells #[.int .i64 bh, .int .i64 br, .int .i64 bf, .string bw] 36)).cell? ⟨wr.heap.size, 0, none⟩ = some (.int .i64 ah) ∧
                  ((wr.alloc (.cells #[.int .i64 ah, .int .i64 ar, .int .i64 af, .string aw] 36)).alloc (.cells #[.int .i64 bh, .int .i64 br, .int .i64 bf, .string bw] 36)).cell? ⟨wr.heap.size, 1, none⟩ = some (.int .i64 ar) ∧
                  ((wr.alloc (.cells #[.int .i64 ah, .int .i64 ar, .int .i64 af, .string aw] 36)).alloc (.cells #[.int .i64 bh, .int .i64 br, .int .i64 bf, .string bw] 36)).cell? ⟨wr.heap.size + 1, 0, none⟩ = some (.int .i64 bh) ∧
                  ((wr.alloc (.cells #[.int .i64 ah, .int .i64 ar, .int .i64 af, .string aw] 36)).alloc (.cells #[.int .i64 bh, .int .i64 br, .int .i64 bf, .string bw] 36)).cell? ⟨wr.heap.size + 1, 1, none⟩ = some (.int .i64 br) ∧
                  ((wr.alloc (.cells #[.int .i64 ah, .int .i64 ar, .int .i64 af, .string aw] 36)).alloc (.cells #[.int .i64 bh, .int .i64 br, .int .i64 bf, .string bw] 36)).cell? ⟨fb, i, none⟩ = some (.int .i64 b) ∧
                  ((wr.alloc (.cells #[.int .i64 ah, .int .i64 ar, .int .i64 af, .string aw] 36)).alloc (.cells #[.int .i64 bh, .int .i64 br, .int .i64 bf, .string bw] 36)).cell? ⟨fb, i - 1, none⟩ = some (.int .i64 a)) := by
                have c1 := new4 wr ah ar af aw 36
                have c2 := new4 (wr.alloc (.cells #[.int .i64 ah, .int .i64 ar, .int .i64 af, .string aw] 36)) bh br bf bw 36
                rw [World.size_alloc] at c2
                refine ⟨(HS.out.alloc _).alloc _, ?_, ?_, c2.1, c2.2, ?_, ?_⟩
                · rw [World.cell?_alloc_lt _ _ _ (by simp)]; exact c1.1
                · rw [World.cell?_alloc_lt _ _ _ (by simp)]; exact c1.2
                · rw [World.cell?_alloc_lt _ _ _ (by simp; omega), World.cell?_alloc_lt _ _ _ hbw]; exact ci
                · rw [World.cell?_alloc_lt _ _ _ (by simp; omega), World.cell?_alloc_lt _ _ _ hbw]; exact cp1
              have hii : ((i : Int) - 1).toNat = i - 1 := by omega
              go_upto_region 18 with (first | (go_at_call 14; refine (Base.specWith _ _ _).mono ?_; rintro e w' ⟨rfl, rfl⟩; rw [HST.out]) | fail)
              generalize (wr.alloc (.cells #[.int .i64 ah, .int .i64 ar, .int .i64 af, .string aw] 36)).alloc (.cells #[.int .i64 bh, .int .i64 br, .int .i64 bf, .string bw] 36) = V at PV ⊢
              obtain ⟨HS2, x0, x1, y0, y1, z0, z1⟩ := PV
              have HV : Hid (LoO w V w1.heap.size g L (some ⟨fb, 0, none⟩) fc ol) := HS2
              clear HS HS2 k0 k1 k2 k3 q0 q1 q2 q3 ci cp1 HST
              generalize wr.heap.size = nb at x0 x1 y0 y1 ⊢
              rcases hr with hr | ⟨hr, hr2 | ⟨hr2, hr3⟩⟩
              · have g1 : decide (br < ar) = false := by simp; omega
                have g2 : (ar == br) = false := by rw [Bool.eq_false_iff]; intro h; rw [beq_iff_eq] at h; omega
                clear hr
                go_quiet (fail)
                go_wp2
                go_roundw
                case rel => exact ⟨i + 1, by omega, by go_num, by rw [HAC.out], HV.out.drewN _⟩
                case measure => simp [intOf]; omega
              · have g1 : decide (br < ar) = false := by simp; omega
                have g2 : (ar == br) = true := by rw [beq_iff_eq]; exact hr
                have g3 : decide (bh < ah) = false := by simp; omega
                have g4 : (ah == bh) = false := by rw [Bool.eq_false_iff]; intro h; rw [beq_iff_eq] at h; omega
                clear hr hr2
                go_quiet (fail)
                go_wp2
                go_roundw
                case rel => exact ⟨i + 1, by omega, by go_num, by rw [HAC.out], HV.out.drewN _⟩
                case measure => simp [intOf]; omega
              · have g1 : decide (br < ar) = false := by simp; omega
                have g2 : (ar == br) = true := by rw [beq_iff_eq]; exact hr
                have g3 : decide (bh < ah) = false := by simp; omega
                have g4 : (ah == bh) = true := by rw [beq_iff_eq]; exact hr2
                have g5 : decide ((b : Int) ≤ (a : Int)) = false := by simp; omega
                clear hr hr2
                go_quiet (fail)
                go_wp2
                go_roundw
                case rel => exact ⟨i + 1, by omega, by go_num, by rw [HAC.out], HV.out.drewN _⟩
                case measure => simp [intOf]; omega
            · obtain rfl : i = 0 := by omega
              obtain ⟨j, ej, hj⟩ := HO.out.at' 0 hlt
              rw [ej] at ci HST
              have h0i : ¬ (0 : Int) < ((0 : Nat) : Int) := by omega
              generalize seenF (ol.take 0) = acc at HST ⊢
              generalize hac : seenF (ol.take (0 + 1)) = acc2 at HST
              have HAC : Hid (seenF (ol.take (0 + 1)) = acc2) := hac
              clear hac hrow
              rw [show ((0 : Nat) : Int) = 0 from rfl] at *
              go_wp2_with (go_at_call 14; refine (Base.specWith _ _ _).mono ?_; rintro e w' ⟨rfl, rfl⟩; rw [HST.out])
              go_roundw
              case rel => exact ⟨0 + 1, by omega, by go_num, by rw [HAC.out], HS⟩
              case measure => simp [intOf]; omega
          · obtain rfl : i = ol.length := by omega
            have hlti : ¬ (ol.length : Int) < (ol.length : Int) := by omega
            have HALL : Hid (seenF (ol.take ol.length) = s) := by rw [List.take_length]; exact HO.out.all
            have hrs := H2.out g cp L fo fc ol wr HS.out.lies HS.out.lt (by omega) (fun z hz => by
              obtain ⟨q, hq, e⟩ := List.getElem_of_mem hz
              obtain ⟨j, ej, hj⟩ := HO.out.at' q hq
              have := HS.out.lies.len
              rw [Tl.getD_get ol q hq, e] at ej
              omega) (Lst.own_rd HS.out.own) (own_at2 HS.out.own)
            rw [HO.out.resp] at hrs
            rw [HALL.out]
            clear HALL
            go_wp2_with fail
            refine hrs.mono ?_
            rintro e w10 ⟨rfl, hb10⟩
            have HB : Hid (Below w.heap.size w w10) := (HS.out.below hb10).bel
            clear hb10 hrs HS
            go_wp2
            go_ret
            exact ⟨rfl, HB.out⟩

end Rm
end Go.Proofs.YtmnkankjblnjaaaGreat

namespace Go.Proofs.YtmnkankjblnjaaaGreat
open Go.RowKit
set_option maxRecDepth 100000
set_option linter.unusedVariables false
namespace Rm
open Kn (K okK)
open Bit (bit memTo)
open Lc (at' RdK laceB setB)
open Sg (bel isB NumsPost seesB belowI)
open Nd (nodsB)
open Db (doubledB)
open Tl (freshI freshL respB)

def ImplFreshOf : Prop := ∀ (g cap : Nat) (L : List K) (k x : Int) (w : World), LiesS w g L → g < w.heap.size → -9223372036854775808 ≤ k → k ≤ 9223372036854775807 → -9223372036854775808 ≤ x → x ≤ 9223372036854775807 →
    Calls Tryz.prog 16 #[.slice (some ⟨g, 0, none⟩) L.length cap, .int .i64 k, .int .i64 x] w (NumsPost (freshI L k x) w)

/-- what the law asks of what is fresh -/
structure FreshIs (L : List K) (k x : Int) (l : List Int) : Prop where
  kb : ¬ belowI L k < 0
  xb : x = -1 ∨ ¬ belowI L x < 0
  has : ∀ i : Nat, i < L.length → Lst.inL l (i : Int) = (seesB L k (i : Int) && (!seesB L x (i : Int) && nodsB L k (i : Int)))
  apart : ∀ i j, i < l.length → j < l.length → doubledB L (l.getD i 0) (l.getD j 0) = false
  zb : ∀ z ∈ l, -9223372036854775808 ≤ z ∧ z ≤ 9223372036854775807
  resp : respB L l = true
theorem below_nn {L : List K} {k : Int} (h : isB L k = true) : ¬ belowI L k < 0 := by
  obtain ⟨h0, h1, hl⟩ := Sg.isB_parts h
  have h60 := ((Lc.lace_iff L).1 hl).1
  unfold Sg.belowI
  rw [h, if_pos rfl]
  have := (Sg.bel_bd L k.toNat (by omega)).1
  omega
theorem below_no {L : List K} {k : Int} (h : isB L k = false) : belowI L k < 0 := by
  unfold Sg.belowI; rw [h, if_neg (by simp)]; omega
theorem fresh_is {L : List K} {k x : Int} (h : isB L k = true) (hx : x = -1 ∨ isB L x = true) : FreshIs L k x (freshI L k x) := by
  obtain ⟨h0, h1, hl⟩ := Sg.isB_parts h
  have h60 := ((Lc.lace_iff L).1 hl).1
  obtain ⟨q, rfl⟩ := Int.eq_ofNat_of_zero_le h0
  have hq : q < L.length := by omega
  have hx' : x = -1 ∨ (0 ≤ x ∧ x < (L.length : Int)) := by
    rcases hx with e | e
    · exact .inl e
    · have := Sg.isB_parts e; exact .inr ⟨this.1, this.2.1⟩
  have e : freshI L (q : Int) x = freshL L (q : Int) x := by
    unfold Tl.freshI
    refine if_pos ?_
    rw [h, Bool.true_and]
    rcases hx with e | e
    · rw [decide_eq_true e, Bool.true_or]
    · rw [e, Bool.or_true]
  rw [e]
  clear e
  generalize hfl : freshL L (q : Int) x = fl
  have hap : ∀ a ∈ fl, ∀ b ∈ fl, doubledB L a b = false := fun a ha b hb => Tl.fresh_apart hl hq (by rw [hfl]; exact ha) (by rw [hfl]; exact hb)
  have hin : ∀ z ∈ fl, 0 ≤ z ∧ z < (L.length : Int) := by rw [← hfl]; exact Tl.fresh_in hl _ _
  have hpr := Tl.fresh_pair hl (q : Int) x
  rw [hfl] at hpr
  have hhs : ∀ i : Nat, i < L.length → Lst.inL fl (i : Int) = (seesB L (q : Int) (i : Int) && (!seesB L x (i : Int) && nodsB L (q : Int) (i : Int))) := fun i hi => by
    have := Tl.fresh_has hl hq hx' hi
    rw [hfl] at this
    exact this
  exact ⟨below_nn h, hx.imp id below_nn, hhs, fun i j hi hj => hap _ (Tl.getD_mem fl i hi) _ (Tl.getD_mem fl j hj), fun z hz => by have := hin z hz; omega, Tl.resp_pair hl hin hpr⟩
theorem fresh_no {L : List K} {k x : Int} (h : isB L k = false ∨ (x ≠ -1 ∧ isB L x = false)) : freshI L k x = [] ∧ (belowI L k < 0 ∨ (x ≠ -1 ∧ belowI L x < 0)) := by
  constructor
  · unfold Tl.freshI
    refine if_neg ?_
    rcases h with h | ⟨h1, h2⟩
    · rw [h, Bool.false_and]; simp
    · rw [h2, decide_eq_false h1]; simp
  · rcases h with h | ⟨h1, h2⟩
    · exact .inl (below_no h)
    · exact .inr ⟨h1, below_no h2⟩
theorem fresh_cases (L : List K) (k x : Int) : FreshIs L k x (freshI L k x) ∨ (freshI L k x = [] ∧ (belowI L k < 0 ∨ (x ≠ -1 ∧ belowI L x < 0))) := by
  cases hk : isB L k
  · exact .inr (fresh_no (.inl hk))
  · by_cases h1 : x = -1
    · exact .inl (fresh_is hk (.inl h1))
    · cases hx : isB L x
      · exact .inr (fresh_no (.inr ⟨h1, hx⟩))
      · exact .inl (fresh_is hk (.inr hx))

set_option maxHeartbeats 6400000 in
theorem freshWalk (HI1 : ImplFreshOf) (HD : DrawsRoom) (a0 : Option Addr) (len0 cap0 : Nat) (w : World) (hcode : Cur.Code w a0 len0) :
    Calls Tryz.prog 4 #[.slice a0 len0 cap0] w fun e w' => e = .returned (.bool true) ∧ Below w.heap.size w w' := by
  by_cases hbig : 4096 < len0
  · have hb' : (4096 : Int) < (len0 : Int) := by omega
    go_enter Tryz.func4, Tryz.ntmps4
    go_wp2
    go_ret
    exact ⟨rfl, Below.refl _ _⟩
  · have hb' : ¬ (4096 : Int) < (len0 : Int) := by omega
    have hle0 : len0 ≤ 4096 := by omega
    have HDD : Hid DrawsRoom := HD
    have H1 : Hid ImplFreshOf := HI1
    have HCode : Hid (Cur.Code w a0 len0) := hcode
    clear hbig HD hcode HI1
    go_enter Tryz.func4, Tryz.ntmps4
    go_wp2_with (first | (go_at_call 5; go_in) | fail)
    refine (drawFreshOf HDD.out a0 len0 cap0 _ hle0 HCode.out).mono ?_
    rintro e w1 ⟨v, L, k, x, rfl, hD1, hk0, hx0⟩
    obtain ⟨g, cp, rfl, hcp, hL1, hg1⟩ := drawn_liesG hD1
    have HB1 : Hid (Below w.heap.size w w1) := hD1.bel
    clear hD1
    go_wp2_with fail
    refine (H1.out g cp L k x _ hL1 hg1 hk0.1 hk0.2 hx0.1 hx0.2).mono ?_
    rintro e w2 ⟨fo, fc, rfl, hof, hb2⟩
    have HS2 : Hid (LoO w w2 w1.heap.size g L fo fc (freshI L k x)) := ⟨hL1.below hb2, Nat.lt_of_lt_of_le hg1 hb2.size, hof, HB1.out.trans (hb2.mono HB1.out.size)⟩
    clear hL1 hg1 hb2 hof HB1 HCode
    have h61 := HS2.out.lies.len
    have hsA := Tl.specFreshOf g 0 cp L k x w2 hcp HS2.out.lies.words HS2.out.lies.rd
    have HBK : Hid (∀ (W : World), LiesS W g L → Calls Tryz.prog 18 #[.slice (some ⟨g, 0, none⟩) L.length cp, .int .i64 k] W fun e w' => e = .returned (.int .i64 (belowI L k)) ∧ Below W.heap.size W w') := fun W h => Sg.specBelow g 0 cp L k W hcp h.words h.rd
    have HBX : Hid (∀ (W : World), LiesS W g L → Calls Tryz.prog 18 #[.slice (some ⟨g, 0, none⟩) L.length cp, .int .i64 x] W fun e w' => e = .returned (.int .i64 (belowI L x)) ∧ Below W.heap.size W w') := fun W h => Sg.specBelow g 0 cp L x W hcp h.words h.rd
    have HSE : Hid (∀ (W : World) (a b : Int), LiesS W g L → Calls Tryz.prog 20 #[.slice (some ⟨g, 0, none⟩) L.length cp, .int .i64 a, .int .i64 b] W fun e w' => e = .returned (.bool (seesB L a b)) ∧ Below W.heap.size W w') := fun W a b h => Sg.specSees g 0 cp L a b W hcp h.words h.rd
    have HNO : Hid (∀ (W : World) (a b : Int), LiesS W g L → Calls Tryz.prog 21 #[.slice (some ⟨g, 0, none⟩) L.length cp, .int .i64 a, .int .i64 b] W fun e w' => e = .returned (.bool (nodsB L a b)) ∧ Below W.heap.size W w') := fun W a b h => Nd.specNods g 0 cp L a b W hcp h.words h.rd
    have HDO : Hid (∀ (W : World) (a b : Int), LiesS W g L → Calls Tryz.prog 22 #[.slice (some ⟨g, 0, none⟩) L.length cp, .int .i64 a, .int .i64 b] W fun e w' => e = .returned (.bool (doubledB L a b)) ∧ Below W.heap.size W w') := fun W a b h => Db.specDoubled g 0 cp L a b W hcp h.words h.rd
    have HCS : Hid (FreshIs L k x (freshI L k x) ∨ (freshI L k x = [] ∧ (belowI L k < 0 ∨ (x ≠ -1 ∧ belowI L x < 0)))) := fresh_cases L k x
    have HRE : Hid (∀ (W : World) (fo : Option Addr) (fc : Nat) (l : List Int), LoO w W w1.heap.size g L fo fc l → l.length ≤ 60 → (∀ z ∈ l, -9223372036854775808 ≤ z ∧ z ≤ 9223372036854775807) → Calls Tryz.prog 12 #[.slice (some ⟨g, 0, none⟩) L.length cp, .slice fo l.length fc] W fun e w' => e = .returned (.bool (respB L l)) ∧ Below W.heap.size W w') := fun W fo fc l h hl hz => Tl.specRespects g 0 cp L fo fc l W hcp h.lies.words h.lt h.lies.rd (by omega) hz (Lst.own_rd h.own) (own_at2 h.own)
    have hlen := Tl.freshI_len L k x
    generalize freshI L k x = ol at HS2 hsA HCS hlen ⊢
    go_wp2_with fail
    refine hsA.mono ?_
    rintro e w5 ⟨so, sc, rfl, hos, hb5⟩
    have HS5 : Hid (LoO w w5 w1.heap.size g L fo fc ol) := HS2.out.below hb5
    have hlk := Lst.alike ol fo so fc sc w5 (by omega) (Lst.own_rd HS5.out.own) (Lst.own_rd hos)
    clear HS2 hb5 hos hsA
    go_wp2_with fail
    refine hlk.mono ?_
    rintro e w6 ⟨rfl, n6, rfl⟩
    have HS6 : Hid (LoO w (w5.drewN n6) w1.heap.size g L fo fc ol) := HS5.out.drewN n6
    clear hlk HS5
    generalize w5.drewN n6 = V6 at HS6 ⊢
    rcases HCS.out with hF | ⟨rfl, hN⟩
    · have HF : Hid (FreshIs L k x ol) := hF
      have HKB : Hid (decide (belowI L k < 0) = false) := decide_eq_false hF.kb
      have HXB : Hid (x = -1 ∨ decide (belowI L x < 0) = false) := hF.xb.imp id (fun h => decide_eq_false h)
      clear hF HCS
      go_upto_region 7 with fail
      go_cut [42] (fun bv wx => bv = .bool false ∧ Hid (LoO w wx w1.heap.size g L fo fc ol))
      case first =>
        go_wp2_with fail
        refine (HBK.out _ HS6.out.lies).mono ?_
        rintro e w7 ⟨rfl, hb7⟩
        have HS7 : Hid (LoO w w7 w1.heap.size g L fo fc ol) := HS6.out.below hb7
        clear HS6 hb7 HBK
        have hkb := HKB.out
        clear HKB
        generalize belowI L k = bk at hkb ⊢
        by_cases hx1 : x = -1
        · subst hx1
          clear HXB HBX
          go_wp2_with fail
          go_meet
          exact ⟨by first | rfl | rw [hkb], HS7⟩
        · have hxb2 : decide (belowI L x < 0) = false := by rcases HXB.out with h | h; exact absurd h hx1; exact h
          have hx2 : (x != -1) = true := by rw [bne_iff_ne]; exact hx1
          clear HXB hx1
          go_wp2_with fail
          refine (HBX.out _ HS7.out.lies).mono ?_
          rintro e w8 ⟨rfl, hb8⟩
          have HS8 : Hid (LoO w w8 w1.heap.size g L fo fc ol) := HS7.out.below hb8
          clear HS7 hb8 HBX
          generalize belowI L x = bx at hxb2 ⊢
          go_wp2_with fail
          go_meet
          exact ⟨by first | rfl | rw [hxb2], HS8⟩
      case rest =>
        clear HS6 HBK HBX HKB HXB
        obtain ⟨rfl, HS8⟩ := hcut
        go_wp2_with fail
        go_loopw [7] (fun iv wx => ∃ i : Nat, i ≤ L.length ∧ iv = .int .i64 i ∧ Hid (LoO w wx w1.heap.size g L fo fc ol)) (fun iv _ => L.length - (intOf iv).toNat)
        case atStart => exact ⟨0, by omega, rfl, HS8⟩
        case round =>
          obtain ⟨i, hi, rfl, HS⟩ := hrel
          clear HS8
          by_cases hlt : i < L.length
          · have hlti : (i : Int) < (L.length : Int) := by omega
            have HH : Hid (Lst.inL ol (i : Int) = (seesB L k (i : Int) && (!seesB L x (i : Int) && nodsB L k (i : Int)))) := HF.out.has i hlt
            have HIS : Hid (∀ (W : World), LoO w W w1.heap.size g L fo fc ol → Calls Tryz.prog 19 #[.slice fo ol.length fc, .int .i64 i] W fun e w' => e = .returned (.bool (Lst.inL ol (i : Int))) ∧ W = w') := fun W h => Lst.isIn ol i fo fc W (by omega) (Lst.own_rd h.own)
            have HSK : Hid (∀ (W : World), LoO w W w1.heap.size g L fo fc ol → Calls Tryz.prog 20 #[.slice (some ⟨g, 0, none⟩) L.length cp, .int .i64 k, .int .i64 i] W fun e w' => e = .returned (.bool (seesB L k (i : Int))) ∧ Below W.heap.size W w') := fun W h => HSE.out W k i h.lies
            have HSX : Hid (∀ (W : World), LoO w W w1.heap.size g L fo fc ol → Calls Tryz.prog 20 #[.slice (some ⟨g, 0, none⟩) L.length cp, .int .i64 x, .int .i64 i] W fun e w' => e = .returned (.bool (seesB L x (i : Int))) ∧ Below W.heap.size W w') := fun W h => HSE.out W x i h.lies
            have HNK : Hid (∀ (W : World), LoO w W w1.heap.size g L fo fc ol → Calls Tryz.prog 21 #[.slice (some ⟨g, 0, none⟩) L.length cp, .int .i64 k, .int .i64 i] W fun e w' => e = .returned (.bool (nodsB L k (i : Int))) ∧ Below W.heap.size W w') := fun W h => HNO.out W k i h.lies
            generalize Lst.inL ol (i : Int) = hv at HH HIS
            generalize seesB L k (i : Int) = sk at HH HSK
            generalize seesB L x (i : Int) = sx at HH HSX
            generalize nodsB L k (i : Int) = nd at HH HNK
            go_wp2_with fail
            refine (HIS.out _ HS.out).mono ?_
            rintro e w' ⟨rfl, rfl⟩
            go_wp2_with fail
            refine (HSK.out _ HS.out).mono ?_
            rintro e w10 ⟨rfl, hb10⟩
            have HS10 : Hid (LoO w w10 w1.heap.size g L fo fc ol) := HS.out.below hb10
            clear HS hb10 HIS HSK
            cases sk
            · obtain rfl : hv = false := HH.out
              clear HH HSX HNK
              go_wp2
              go_roundw
              case rel => exact ⟨i + 1, by omega, by go_num, HS10⟩
              case measure => simp [intOf]; omega
            · go_wp2_with fail
              refine (HSX.out _ HS10.out).mono ?_
              rintro e w11 ⟨rfl, hb11⟩
              have HS11 : Hid (LoO w w11 w1.heap.size g L fo fc ol) := HS10.out.below hb11
              clear HS10 hb11 HSX
              cases sx
              · go_wp2_with fail
                refine (HNK.out _ HS11.out).mono ?_
                rintro e w12 ⟨rfl, hb12⟩
                have HS12 : Hid (LoO w w12 w1.heap.size g L fo fc ol) := HS11.out.below hb12
                clear HS11 hb12 HNK
                obtain rfl : hv = nd := HH.out.trans (by cases nd <;> rfl)
                clear HH
                cases hv
                · go_wp2
                  go_roundw
                  case rel => exact ⟨i + 1, by omega, by go_num, HS12⟩
                  case measure => simp [intOf]; omega
                · go_wp2
                  go_roundw
                  case rel => exact ⟨i + 1, by omega, by go_num, HS12⟩
                  case measure => simp [intOf]; omega
              · obtain rfl : hv = false := HH.out
                clear HH HNK
                go_wp2
                go_roundw
                case rel => exact ⟨i + 1, by omega, by go_num, HS11⟩
                case measure => simp [intOf]; omega
          · obtain rfl : i = L.length := by omega
            have hlti : ¬ (L.length : Int) < (L.length : Int) := by omega
            clear HSE HNO
            go_wp2_with fail
            go_loopw [8] (fun iv wx => ∃ i : Nat, i ≤ ol.length ∧ iv = .int .i64 i ∧ Hid (LoO w wx w1.heap.size g L fo fc ol)) (fun iv _ => ol.length - (intOf iv).toNat)
            case atStart => exact ⟨0, by omega, rfl, HS⟩
            case round =>
              clear HS
              obtain ⟨i, hi, rfl, HS⟩ := hrel
              by_cases hlt : i < ol.length
              · have hlti2 : (i : Int) < (ol.length : Int) := by omega
                obtain ⟨fb, rfl, hrow0⟩ := HS.out.cell (by omega)
                clear hrow0
                go_wp2_with fail
                go_loopw [9] (fun jv wx => ∃ j : Nat, j ≤ i ∧ jv = .int .i64 j ∧ Hid (LoO w wx w1.heap.size g L (some ⟨fb, 0, none⟩) fc ol)) (fun jv _ => i - (intOf jv).toNat)
                case atStart => exact ⟨0, by omega, rfl, HS⟩
                case round =>
                  clear HS
                  obtain ⟨j, hj, rfl, HS⟩ := hrel
                  by_cases hji : j < i
                  · have hjii : (j : Int) < (i : Int) := by omega
                    have hjl : (j : Int) < (ol.length : Int) := by omega
                    obtain ⟨fb', e, hrow⟩ := HS.out.cell (by omega)
                    injection e with e
                    injection e with e
                    subst e
                    have ci := hrow i hlt
                    have cj := hrow j (by omega)
                    have HDB : Hid (∀ (W : World), Below wr.heap.size wr W → Calls Tryz.prog 22 #[.slice (some ⟨g, 0, none⟩) L.length cp, .int .i64 (ol.getD i 0), .int .i64 (ol.getD j 0)] W fun e w' => e = .returned (.bool false) ∧ Below wr.heap.size wr w') := fun W h => by
                      have := HDO.out W (ol.getD i 0) (ol.getD j 0) (HS.out.below h).lies
                      rw [HF.out.apart i j hlt (by omega)] at this
                      exact this.mono fun _ _ q => ⟨q.1, h.trans (q.2.mono h.size)⟩
                    have hbw : fb < wr.heap.size := own_at2 HS.out.own fb rfl
                    clear hrow
                    generalize ol.getD i 0 = yi at ci HDB
                    generalize ol.getD j 0 = yj at cj HDB
                    go_wp2_with fail
                    obtain ⟨X, _, F, HFM, HG⟩ := Fam.fam wr
                    have hc1 : ∀ z, (F z).cell? ⟨fb, i, none⟩ = some (.int .i64 yi) := fun z => ((HFM.out z).cell (p := ⟨fb, i, none⟩) hbw).trans ci
                    have hc2 : ∀ z, (F z).cell? ⟨fb, j, none⟩ = some (.int .i64 yj) := fun z => ((HFM.out z).cell (p := ⟨fb, j, none⟩) hbw).trans cj
                    clear ci cj
                    refine Fam.region (F := F) (by kernel_rfl) (by kernel_rfl) (HG.out _ (Below.refl _ wr).drew) ?_
                    repeat (go_big_quiet_step (first
                      | (go_at_call 22; exact (HDB.out _ (HFM.out _)).mono fun _ _ h => ⟨h.1, HG.out _ h.2⟩)))
                    refine wpQuiet_nil ?_
                    intro w2 hw2
                    obtain ⟨z, rfl⟩ := hw2
                    have HS2 : Hid (LoO w (F z) w1.heap.size g L (some ⟨fb, 0, none⟩) fc ol) := HS.out.below (HFM.out z)
                    clear HS
                    go_wp2
                    go_roundw
                    case rel => exact ⟨j + 1, by omega, by go_num, HS2⟩
                    case measure => simp [intOf]; omega
                  · obtain rfl : j = i := by omega
                    have hjii : ¬ (j : Int) < (j : Int) := by omega
                    go_wp2
                    go_roundw
                    case rel => exact ⟨j + 1, by omega, by go_num, HS⟩
                    case measure => simp [intOf]; omega
              · obtain rfl : i = ol.length := by omega
                have hlti2 : ¬ (ol.length : Int) < (ol.length : Int) := by omega
                have hrs := HRE.out wr fo fc ol HS.out hlen HF.out.zb
                rw [HF.out.resp] at hrs
                go_wp2_with fail
                refine hrs.mono ?_
                rintro e w13 ⟨rfl, hb13⟩
                have HB : Hid (Below w.heap.size w w13) := (HS.out.below hb13).bel
                clear hb13 hrs HS
                go_wp2
                go_ret
                exact ⟨rfl, HB.out⟩
    · have HN : Hid (belowI L k < 0 ∨ (x ≠ -1 ∧ belowI L x < 0)) := hN
      clear HCS HSE HNO HDO HRE hN
      go_upto_region 7 with fail
      go_cut [42] (fun bv wx => bv = .bool true ∧ Hid (LoO w wx w1.heap.size g L fo fc []))
      case first =>
        go_wp2_with fail
        refine (HBK.out _ HS6.out.lies).mono ?_
        rintro e w7 ⟨rfl, hb7⟩
        have HS7 : Hid (LoO w w7 w1.heap.size g L fo fc []) := HS6.out.below hb7
        clear HS6 hb7 HBK
        generalize belowI L k = bk at HN ⊢
        by_cases hbk : bk < 0
        · clear HN HBX
          go_wp2_with fail
          go_meet
          exact ⟨rfl, HS7⟩
        · obtain ⟨hx1, hbx⟩ : x ≠ -1 ∧ belowI L x < 0 := by rcases HN.out with h | h; exact absurd h hbk; exact h
          have hx2 : (x != -1) = true := by rw [bne_iff_ne]; exact hx1
          have hbk2 : decide (bk < 0) = false := decide_eq_false hbk
          have hbx2 : decide (belowI L x < 0) = true := decide_eq_true hbx
          clear HN hx1 hbx hbk
          go_wp2_with fail
          refine (HBX.out _ HS7.out.lies).mono ?_
          rintro e w8 ⟨rfl, hb8⟩
          have HS8 : Hid (LoO w w8 w1.heap.size g L fo fc []) := HS7.out.below hb8
          clear HS7 hb8 HBX
          generalize belowI L x = bx at hbx2 ⊢
          go_wp2_with fail
          go_meet
          exact ⟨by first | rfl | rw [hbx2], HS8⟩
      case rest =>
        clear HS6 HBK HBX HN
        obtain ⟨rfl, HS8⟩ := hcut
        go_wp2
        go_ret
        exact ⟨rfl, HS8.out.bel⟩

end Rm
end Go.Proofs.YtmnkankjblnjaaaGreat

namespace Go.Proofs.YtmnkankjblnjaaaGreat
open Go.RowKit
namespace Rm

theorem drawsBad : DrawsBad := fun c a len cap ao cp L co nc cc go nh hc bad w hl hca hlc hr hn => l18DrawBad c a len cap ao cp L co nc cc go nh hc bad w hl hca hlc hr hn
theorem drawsRoom : DrawsRoom := fun c a len cap w hl hc => l18Draw' (l18DrawActs' drawsBad (l18DrawAct' drawsBad)) c a len cap w hl hc

end Rm
end Go.Proofs.YtmnkankjblnjaaaGreat

namespace Go.Proofs.YtmnkankjblnjaaaGreat.fnFresh
open Go.ChangeShapes Go.WideShapes Go.ChangeAt Go.RowKit
set_option linter.unusedVariables false
set_option maxRecDepth 100000

theorem own : ownKnob Tryz.prog.godebug = none := by kernel_rfl
theorem laidOut : laidOutB Tryz.prog = true := by kernel_rfl

/-- what is told of a slice of integers that came in: it is nil, or it leads to a row of cells that hold these -/
def IsRow (k : IntKind) (w : World) (a : Option Addr) (len cap : Nat) (zs : List Int) : Prop :=
  (a = none ∧ len = 0 ∧ cap = 0 ∧ zs = []) ∨
  ∃ x, a = some x ∧ len ≤ cap ∧ cap ≤ maxLen ∧ zs.length = cap ∧ (∀ i, i < zs.length → w.cell? (x.add i) = some (.int k (zs.getD i 0))) ∧ ∀ n ∈ zs, (Lit.int k n).wf = true

theorem code_of {w : World} {a : Option Addr} {len cap : Nat} {zs : List Int} (h : IsRow .u8 w a len cap zs) : Cur.Code w a len := by
  rcases h with ⟨_, h, _, _⟩ | ⟨x, rfl, hl, _, hz, hcell, hwz⟩
  · exact .inl h
  · by_cases h0 : len = 0
    · exact .inl h0
    · obtain ⟨b, off, spot⟩ := x
      have hc := hcell 0 (by omega)
      have hspot : spot = none := by simpa [Addr.add] using World.cell?_spot hc
      subst hspot
      refine .inr ⟨b, off, rfl, ?_, fun j hj => ?_⟩
      · have := block_lt_of_cell hc; simpa [Addr.add] using this
      · have hcj := hcell j (by omega)
        have hj' : j < zs.length := by omega
        have hw := hwz (zs.getD j 0) (by simp [List.getD, List.getElem?_eq_getElem hj'])
        refine ⟨zs.getD j 0, ?_, ?_⟩
        · by_cases hj0 : j = 0
          · subst hj0; simpa [Addr.add] using hcj
          · simpa [Addr.add, hj0] using hcj
        simpa [Lit.wf, IntKind.min, IntKind.max, IntKind.signed, IntKind.bits] using hw

theorem lifted (os : Os) (started : os.Started) (H : Type) (enc : TypeId × Value → H) :
    ReturnsInHanded {} Tryz.checked os 4 .any (Rows.fnFreshSpec.pre6 enc Tryz.prog Tryz.f4 Rows.fnFreshRow.domain false) (Rows.fnFreshSpec.post enc Tryz.prog Tryz.f4 false true false false) := by
  refine returnsInHanded_of_change (C := Tryz.checked) own started (by kernel_rfl) Tryz.func4
    (ChangeSpec.witness6 (enc := enc) (C := Tryz.checked) false ⟨#[], #[.slice none 0 0], []⟩ 8 (by kernel_rfl) (by kernel_rfl) (by kernel_rfl) (by kernel_rfl)) ?_
  intro W base args ds gs before hval0 hW hcnd _
  have hval : ∀ (j : Nat) t v, Tryz.f4.params[j]? = some t → args[j]? = some v → Value.okWide Tryz.prog W .any base t v := hval0
  have hW' := hW
  obtain ⟨p, q, hA0, hV, rfl, hfz, hnd⟩ := hW
  have hA : DataW.TrodAll enc Tryz.prog W 0 (fun _ => true) true Tryz.f4.params.toList args.toList ds p := hA0
  rw [Tryz.params4] at hA hval
  obtain ⟨v0, vs0, d0, ds0, p0, q0, hargs, rfl, rfl, h0, r0⟩ := trodAll_cons hA
  obtain ⟨rfl, rfl, rfl⟩ := trodAll_nil r0
  obtain rfl : args = #[v0] := by cases args; simp_all
  obtain ⟨rfl, rfl⟩ := trodVars_none hV
  obtain ⟨a0, len0, cap0, rfl⟩ := okWide_slice Tryz.underlying22 (hval 0 22 v0 rfl rfl)
  have k0 := h0
  have lt0 : ∀ x ∈ p0, x.block < W.heap.size := by obtain ⟨m, hm⟩ := k0; exact DataW.trod_lt m _ _ _ hm
  obtain ⟨z0, w0⟩ : ∃ zs, IsRow .u8 W a0 len0 cap0 zs := by
    obtain ⟨fuel, hf⟩ := h0
    rcases open_ints Tryz.underlying22 Tryz.underlying5 (by kernel_rfl) hf with ⟨hcs, _⟩ | ⟨x, l, c, zs, hcs, _, hl, hm, hz, _, hcell, hwz⟩
    · simp [Value.cells] at hcs
      obtain ⟨rfl, rfl, rfl⟩ := hcs
      exact ⟨[], .inl ⟨rfl, rfl, rfl, rfl⟩⟩
    · simp [Value.cells] at hcs
      obtain ⟨rfl, rfl, rfl⟩ := hcs
      exact ⟨zs, .inr ⟨_, rfl, hl, hm, by simpa using hz, hcell, hwz⟩⟩
  clear hA0 hval0
  simp only [List.append_nil] at hW'
  refine (Rm.freshWalk (fun g cap L k x w hL hg h0 h1 h2 h3 => So.implFreshOf g 0 cap L k x w (by have := hL.len; omega) hL.words hL.rd) Rm.drawsRoom a0 len0 cap0 W (code_of w0)).mono fun e W' ⟨he, bel⟩ => ?_
  subst he
  exact ⟨_, rfl, _, _, _, [], _, [], hW', trodAll_mk1 (shut_bool Tryz.underlying4 _), (trodAll_cons_mk (Below.trod laidOut (by kernel_rfl) (of_decide_eq_true (by kernel_rfl)) k0 bel lt0) trodAll_mk0), rfl, bel.frame _, fun h => by cases h⟩

theorem over : Rows.fnFreshRow.holds Tryz.pinned (OpenSpec.ofChange Rows.fnFreshSpec) :=
  OpenClaim.holds_of_wide 4 Tryz.f4 rfl rfl rfl rfl rfl rfl rfl ⟨rfl, rfl, rfl, rfl, rfl⟩ rfl rfl rfl rfl rfl (by kernel_rfl) Tryz.func4 (by kernel_rfl)
    (of_decide_eq_true (by kernel_rfl)) (by unfold Func.isWrapper; first | (rw [if_pos (by decide +kernel)]; kernel_rfl) | (rw [if_neg (by decide +kernel)]; exact ⟨rfl, rfl⟩))
    (fun os started H enc _ => lifted os started H enc)

theorem proved : Rows.FnFreshSaid :=
  over
end Go.Proofs.YtmnkankjblnjaaaGreat.fnFresh
