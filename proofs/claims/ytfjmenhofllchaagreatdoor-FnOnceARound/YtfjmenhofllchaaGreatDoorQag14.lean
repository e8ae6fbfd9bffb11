/-
 A knot in a block of its own: kept, made, put.
-/
import Derived.Test.YtfjmenhofllchaaGreatDoorQag13
import Derived.Laws.StructEq
import Derived.WalkLawsBesides
set_option linter.unusedVariables false
namespace Go.Proofs.YtfjmenhofllchaaGreatDoor
open Go.RowKit
set_option maxRecDepth 100000
set_option linter.unusedVariables false
namespace Rm
open Kn (K okK)
open Bit (bit withB)
open Lc (at' laceB handsN roundS)
open Sg (belows bel orB)
theorem nextTo_spec (L : List K) (has : Int) : ∀ n : Nat, (∀ k : Nat, k < n → 3 ≤ handsN L (roundS L has (k : Int)) → (k : Int) + 1 ≤ nextTo L has n) ∧ (nextTo L has n = 0 ∨ 3 ≤ handsN L (roundS L has (nextTo L has n - 1))) := by
 intro n
 induction n with
 | zero => exact ⟨fun k hk => by omega, .inl rfl⟩
 | succ n ih =>
   unfold nextTo
   by_cases h : 3 ≤ handsN L (roundS L has (n : Int))
   · rw [if_pos h]
     refine ⟨fun k hk _ => by omega, .inr ?_⟩
     have e : ((n + 1 : Nat) : Int) - 1 = (n : Int) := by omega
     rw [e]; exact h
   · rw [if_neg h]
     refine ⟨fun k hk h3 => ?_, ih.2⟩
     by_cases e : k = n
     · subst e; exact absurd h3 h
     · exact ih.1 k (by omega) h3
theorem last_most (L : List K) (who s : Int) : ∀ n : Nat, (∀ i, i < n → bit s i = true → (at' L i).hand = who → 0 ≤ lastTo L who s n ∧ (at' L i).round ≤ (at' L (lastTo L who s n).toNat).round) ∧ (0 ≤ lastTo L who s n → bit s (lastTo L who s n).toNat = true ∧ (at' L (lastTo L who s n).toNat).hand = who) := by
 intro n
 induction n with
 | zero => exact ⟨fun i hi => by omega, fun h => by simp [lastTo] at h⟩
 | succ n ih =>
   have hbd := lastTo_bd L who s n
   unfold lastTo
   cases hc : (bit s n && (decide ((at' L n).hand = who) && (decide (lastTo L who s n < 0) || decide ((at' L (lastTo L who s n).toNat).round < (at' L n).round))))
   · rw [if_neg (by simp)]
     refine ⟨fun i hi hb hw => ?_, ih.2⟩
     by_cases e : i = n
     · subst e
       rw [hb, hw] at hc
       simp at hc
       exact ⟨hc.1, hc.2⟩
     · exact ih.1 i (by omega) hb hw
   · rw [if_pos rfl, Int.toNat_natCast]
     simp only [Bool.and_eq_true, Bool.or_eq_true, decide_eq_true_eq] at hc
     refine ⟨fun i hi hb hw => ⟨by omega, ?_⟩, fun _ => ⟨hc.1, hc.2.1⟩⟩
     by_cases e : i = n
     · subst e; exact Int.le_refl _
     · obtain ⟨q1, q2⟩ := ih.1 i (by omega) hb hw
       rcases hc.2.2 with q | q <;> omega
theorem own_last {L : List K} {h : Hd} (x : HandIs L h) {i : Nat} (hb : bit h.has i = true) (hw : (at' L i).hand = h.who) : 0 ≤ h.last ∧ (at' L i).round ≤ (at' L h.last.toNat).round := by
 have := (last_most L h.who h.kept L.length).1 i (x.inn i hb) (x.own i hb hw) hw
 rw [← x.last] at this
 exact this
theorem last_has {L : List K} {h : Hd} (x : HandIs L h) (h0 : 0 ≤ h.last) : bit h.has h.last.toNat = true ∧ h.last.toNat < L.length := by
 have := (last_most L h.who h.kept L.length).2
 rw [← x.last] at this
 have hb := x.sub _ (this h0).1
 exact ⟨hb, x.inn _ hb⟩
theorem next_parts {L : List K} {h : Hd} (x : HandIs L h) (h0 : 0 ≤ nextI L h.has h.last) : nextI L h.has h.last = nextTo L h.has 19 ∧ (nextI L h.has h.last = 0 ∨ 3 ≤ handsN L (roundS L h.has (nextI L h.has h.last - 1))) ∧ nextI L h.has h.last ≤ 19 ∧ (0 ≤ h.last → (at' L h.last.toNat).round < nextI L h.has h.last) := by
 have hbd := nextTo_bd L h.has 19
 have hsp := (nextTo_spec L h.has 19).2
 unfold nextI at h0 ⊢
 by_cases hc : 0 ≤ h.last ∧ nextTo L h.has 19 ≤ (at' L h.last.toNat).round
 · rw [if_pos hc] at h0; omega
 · rw [if_neg hc]
   exact ⟨rfl, hsp, hbd.2, fun q => by omega⟩
theorem next_none {L : List K} {h : Hd} (x : HandIs L h) (hn : nextI L h.has h.last < 0) : 0 ≤ h.last ∧ ((at' L h.last.toNat).round < 19 → handsN L (roundS L h.has (at' L h.last.toNat).round) < 3) := by
 have hbd := nextTo_bd L h.has 19
 unfold nextI at hn
 by_cases hc : 0 ≤ h.last ∧ nextTo L h.has 19 ≤ (at' L h.last.toNat).round
 · refine ⟨hc.1, fun h19 => ?_⟩
   have hrd := Ag.round_bd x.lace (last_has x hc.1).2
   obtain ⟨q, hq⟩ : ∃ q : Nat, (at' L h.last.toNat).round = (q : Int) := ⟨(at' L h.last.toNat).round.toNat, by omega⟩
   rw [hq] at hc h19 ⊢
   have := (nextTo_spec L h.has 19).1 q (by omega)
   rcases Int.lt_or_le (handsN L (roundS L h.has (q : Int))) 3 with p | p
   · exact p
   · have := this p; omega
 · rw [if_neg hc] at hn; omega
theorem draft_can {L : List K} {h : Hd} (x : HandIs L h) (h0 : 0 ≤ nextI L h.has h.last) {word : ByteArray} (hwd : Kn.okW word = true) : Lc.canB L (draftK L (belows L L.length) h.who h.has h.last word) = true := by
 have h60 := ((Lc.lace_iff L).1 x.lace).1
 obtain ⟨hn, hsp, h19, hl⟩ := next_parts x h0
 have hC := draft_closed x (nextI L h.has h.last)
 have hlen := Sg.belows_len L L.length
 have htb := Sg.tipsTo_bd (belows L L.length) (draftS L h.has (nextI L h.has h.last)) L.length hC.s0 hC.s1
 have htip := fun j => tips_iff hC j
 have hbd := fun j => bit_draftS L h.has (nextI L h.has h.last) h60 j
 have hup : ∀ i, i < L.length → bit h.has i = true → (at' L i).round = nextI L h.has h.last - 1 → bit (Sg.tipsTo (belows L L.length) (draftS L h.has (nextI L h.has h.last)) L.length) i = true := fun i hi hb hr => by
   rw [htip]
   refine ⟨?_, fun j hj hbj hne => ?_⟩
   · rw [hbd, decide_eq_true hi, hb, decide_eq_true (by omega)]; rfl
   · rw [Bool.eq_false_iff]
     intro hq
     have h1 := Ag.sees_round x.lace hj hq hne
     rw [hbd, Bool.and_eq_true, Bool.and_eq_true, decide_eq_true_eq, decide_eq_true_eq] at hbj
     omega
 unfold Lc.canB
 have hfrm : (draftK L (belows L L.length) h.who h.has h.last word).frm = Sg.tipsTo (belows L L.length) (draftS L h.has (nextI L h.has h.last)) L.length := by unfold draftK; rw [hlen]
 have hrnd : (draftK L (belows L L.length) h.who h.has h.last word).round = nextI L h.has h.last := rfl
 have hlow : ∀ i, bit (Sg.tipsTo (belows L L.length) (draftS L h.has (nextI L h.has h.last)) L.length) i = true → i < L.length ∧ bit h.has i = true ∧ (at' L i).round < nextI L h.has h.last := fun i hi => by
   have := ((htip i).1 hi).1
   rw [hbd, Bool.and_eq_true, Bool.and_eq_true, decide_eq_true_eq, decide_eq_true_eq] at this
   exact ⟨this.1, this.2.1, this.2.2⟩
 rw [Bool.and_eq_true, Bool.and_eq_true, Bool.and_eq_true, decide_eq_true_eq, Lc.lesser_iff]
 refine ⟨?_, ?_, ?_, ?_⟩
 · unfold Kn.okK
   rw [hfrm, hrnd]
   have e1 : Kn.in3 (draftK L (belows L L.length) h.who h.has h.last word).hand = true := x.who
   have e2 : Kn.in19 (nextI L h.has h.last) = true := by unfold Kn.in19; rw [decide_eq_true h0, decide_eq_true h19]; rfl
   have e3 : Base.okB (Sg.tipsTo (belows L L.length) (draftS L h.has (nextI L h.has h.last)) L.length) = true := (Base.okB_iff _).2 htb
   have e5 : Kn.okW (draftK L (belows L L.length) h.who h.has h.last word).word = true := hwd
   rw [e1, e2, e3, e5]
   have e4 : Kn.both0 (nextI L h.has h.last) (Sg.tipsTo (belows L L.length) (draftS L h.has (nextI L h.has h.last)) L.length) = true := by
     unfold Kn.both0
     rw [beq_iff_eq]
     by_cases hz : nextI L h.has h.last = 0
     · have : Sg.tipsTo (belows L L.length) (draftS L h.has (nextI L h.has h.last)) L.length = 0 := by
         refine Lc.eq_of_bits _ _ htb.1 (by omega) fun j => ?_
         cases hj : bit (Sg.tipsTo (belows L L.length) (draftS L h.has (nextI L h.has h.last)) L.length) j
         · simp [Bit.bit]
         · obtain ⟨p1, p2, p3⟩ := hlow j hj
           have := (Ag.round_bd x.lace p1).1
           omega
       rw [this, hz]
     · have hne : Sg.tipsTo (belows L L.length) (draftS L h.has (nextI L h.has h.last)) L.length ≠ 0 := fun e => by
         have h3 := hsp.resolve_left hz
         obtain ⟨i, hi, hb⟩ := Ag.hands_some h3
         rw [Ag.bit_round _ _ _ h60, Bool.and_eq_true, Bool.and_eq_true, decide_eq_true_eq, decide_eq_true_eq] at hb
         have := hup i hi hb.2.1 hb.2.2
         rw [e] at this
         simp [Bit.bit] at this
       rw [beq_eq_false_iff_ne.2 hz, beq_eq_false_iff_ne.2 hne]
   rw [e4]; rfl
 · rw [hfrm]
   refine Lc.div_of_bits _ _ htb.1 fun i hi => ?_
   rw [Bool.eq_false_iff]
   intro hq
   have := (hlow i hq).1
   omega
 · intro i hi hb
   rw [hfrm] at hb
   exact (hlow i hb).2.2
 · unfold Lc.handsB
   rw [hfrm, hrnd, Bool.or_eq_true, decide_eq_true_eq, decide_eq_true_eq]
   rcases hsp with q | q
   · exact .inl q
   · right
     refine Int.le_trans q (Sl.hands_mono fun i hi hb => ?_)
     rw [Ag.bit_round _ _ _ h60, Bool.and_eq_true, Bool.and_eq_true, decide_eq_true_eq, decide_eq_true_eq] at hb ⊢
     exact ⟨hi, hup i hi hb.2.1 hb.2.2, hb.2.2⟩
theorem tie_when {L : List K} {h : Hd} (x : HandIs L h) {word : ByteArray} (hwd : Kn.okW word = true) : tieB L h word = (decide (0 ≤ nextI L h.has h.last) && decide (L.length < 60)) := by
 unfold tieB
 by_cases h0 : 0 ≤ nextI L h.has h.last
 · have hc := draft_can x h0 hwd
   have hd : draftB L (belows L L.length) h.who h.has h.last word = true := by
     unfold draftB
     rw [decide_eq_true h0, Lc.can_ok hc]; rfl
   have hk : tieK L h word = draftK L (belows L L.length) h.who h.has h.last word := by unfold tieK draftZ; rw [if_pos hd]
   rw [hd, hk, decide_eq_true h0]
   unfold Lc.takesB
   rw [hc, Bool.and_true]
 · have hd : draftB L (belows L L.length) h.who h.has h.last word = false := by
     unfold draftB
     rw [decide_eq_false h0]; rfl
   rw [hd, decide_eq_false h0]; rfl
theorem tied_sees {L : List K} {h : Hd} {word : ByteArray} (x : HandIs L h) (q : tieB L h word = true) {i : Nat} (hb : bit h.has i = true) (hw : (at' L i).hand = h.who) : bit (bel (L ++ [tieK L h word]) L.length) i = true := by
 obtain ⟨_, _, _, hr, hr0, _, _⟩ := tie_parts x q
 obtain ⟨h0, hle⟩ := own_last x hb hw
 have := (next_parts x hr0).2.2.2 h0
 rw [tied_below x q i (x.inn i hb), hb, decide_eq_true (by omega)]; rfl
theorem tied_single {L : List K} {h : Hd} {word : ByteArray} (x : HandIs L h) (q : tieB L h word = true) (j : Nat) (hj : bit (orB h.has (2 ^ L.length)) j = true) : Db.dblN (L ++ [tieK L h word]) L.length j = false := by
 obtain ⟨hl2, h60, hhand, hr, hr0, _, _⟩ := tie_parts x q
 have hE : Gr.Ext L (L ++ [tieK L h word]) := Gr.Ext.app x.lace hl2
 have hn : L.length < (L ++ [tieK L h word]).length := by simp
 have hat : at' (L ++ [tieK L h word]) L.length = tieK L h word := by unfold Lc.at'; simp
 have hp := Lc.pow60 L.length (by omega)
 rw [Sg.bit_orB h.has _ x.h0 (by omega) j, Sg.bit_pow, Bool.or_eq_true, decide_eq_true_eq] at hj
 unfold Db.dblN
 rcases hj with hj | rfl
 · have hjl := x.inn j hj
   rw [hat, hhand, hE.same j hjl]
   by_cases hw : (at' L j).hand = h.who
   · rw [tied_sees x q hj hw]; simp
   · rw [decide_eq_false (fun e => hw e.symm)]; rfl
 · rw [Db.bel_self hl2 hn]; simp
end Rm
end Go.Proofs.YtfjmenhofllchaaGreatDoor
namespace Go.Proofs.YtfjmenhofllchaaGreatDoor
open Go.RowKit
set_option maxRecDepth 100000
namespace Rm
open Kn (K okK)
open Bit (bit)
open Lc (at' RdK laceB flat OwnK cellsOf CellsK)
open Cur (At)
abbrev kv (k : K) : Value := .agg #[.int .i64 k.hand, .int .i64 k.round, .int .i64 k.frm, .string k.word]
theorem knS : Tryz.prog.stoodInHeld 36 = false := by kernel_rfl
theorem knF : Tryz.prog.underlying 36 = some (.struct (Tryz.prog.fieldsOf 36)) := by kernel_rfl
theorem knot_ne (h r f : Int) (s : ByteArray) (W : World) : (binOp .neq 36 (.agg #[.int .i64 h, .int .i64 r, .int .i64 f, .string s]) (.agg #[.int .i64 h, .int .i64 r, .int .i64 f, .string s])).run Tryz.prog W = .ok (.bool false) W := by
 rw [run_neq_struct, run_equalIn_agg W 9999 36 _ _ knF knS]
 simp only [Program.fieldsOf, Tryz.underlying36]
 simp [go_sem, Op.eqFields, Tryz.underlying2, Tryz.underlying9]
set_option maxHeartbeats 400000 in
theorem l1HasAny (s : Int) (i : Nat) (w : World) (h : i ≤ 62) : Calls Tryz.prog 48 #[.int .i64 s, .int .i64 (i : Int)] w fun e w' => ∃ b : Bool, e = .returned (.bool b) ∧ w = w' := by
 go_enter Tryz.func48, Tryz.ntmps48
 go_wp2
 go_ret
 exact ⟨_, rfl, rfl⟩
set_option maxHeartbeats 1600000 in
theorem l3RoundAny (g cap : Nat) (L : List K) (s r : Int) (w : World) (hL : L.length ≤ 61) (hr : RdK w (some ⟨g, 0, none⟩) L) : Calls Tryz.prog 76 #[.slice (some ⟨g, 0, none⟩) L.length cap, .int .i64 s, .int .i64 r] w fun e w' => ∃ x : Int, e = .returned (.int .i64 x) ∧ w' = w := by
 go_enter Tryz.func76, Tryz.ntmps76
 go_wp2
 go_loopw [7, 8] (fun o i wr => ∃ (k : Nat) (x : Int), k ≤ L.length ∧ i = .int .i64 (k : Int) ∧ o = .int .i64 x ∧ wr = w) (fun _ i _ => L.length - (intOf i).toNat)
 case atStart => exact ⟨0, 0, by omega, rfl, rfl, rfl⟩
 case round =>
   obtain ⟨k, x, hk, rfl, rfl, hw⟩ := hrel
   have hw' := hw.symm
   subst hw'
   by_cases hlt : k < L.length
   · have hki : (k : Int) < (L.length : Int) := by omega
     obtain ⟨_, _, c1, _, _⟩ := hr.on k hlt
     rw [Nat.zero_add] at c1
     generalize (at' L k).round = rk at c1
     go_wp2_with fail
     refine (l1HasAny s k _ (by omega)).mono ?_
     rintro e w1 ⟨b, rfl, rfl⟩
     cases b
     · go_wp2
       go_roundw
       case rel => exact ⟨k + 1, x, by omega, by go_num, rfl, by first | rfl | trivial⟩
       case measure => simp [intOf]; omega
     · by_cases hq : rk = r
       · have hq1 : (rk == r) = true := by simpa using hq
         go_wp2_with fail
         refine (l1BitAny k _ (by omega)).mono ?_
         rintro e w1 ⟨y, rfl, rfl⟩
         go_wp2
         go_roundw
         case rel => exact ⟨k + 1, _, by omega, by go_num, rfl, by first | rfl | trivial⟩
         case measure => simp [intOf]; omega
       · have hq1 : (rk == r) = false := by simpa using hq
         go_wp2
         go_roundw
         case rel => exact ⟨k + 1, x, by omega, by go_num, rfl, by first | rfl | trivial⟩
         case measure => simp [intOf]; omega
   · obtain rfl : k = L.length := by omega
     go_wp2
     go_ret
     first | exact ⟨x, rfl, rfl⟩ | exact ⟨⟨x, rfl⟩, rfl⟩
set_option maxHeartbeats 1600000 in
theorem likeLace (a b : Option Addr) (ca cb : Nat) (L : List K) (w : World) (hL : L.length ≤ 1000) (ha : RdK w a L) (hb : RdK w b L) :
   Calls Tryz.prog 25 #[.slice a L.length ca, .slice b L.length cb] w fun e w' => e = .returned (.bool true) ∧ ∃ n, w' = w.drewN n := by
 go_enter Tryz.func25, Tryz.ntmps25
 go_wp2
 go_loopw [5] (fun i wr => ∃ k n : Nat, k ≤ L.length ∧ i = .int .i64 (k : Int) ∧ wr = w.drewN n) (fun i _ => L.length - (intOf i).toNat)
 case atStart => exact ⟨0, 0, by omega, rfl, rfl⟩
 case round =>
   obtain ⟨k, n, hk, rfl, rfl⟩ := hrel
   by_cases hlt : k < L.length
   · obtain ⟨g1, o1, rfl, _, x0, x1, x2, x3⟩ := ha.at k hlt
     obtain ⟨g2, o2, rfl, _, y0, y1, y2, y3⟩ := hb.at k hlt
     have hki : (k : Int) < (L.length : Int) := by omega
     have hne := knot_ne (at' L k).hand (at' L k).round (at' L k).frm (at' L k).word
     generalize (at' L k).hand = h at x0 y0 hne
     generalize (at' L k).round = r at x1 y1 hne
     generalize (at' L k).frm = f at x2 y2 hne
     generalize (at' L k).word = s at x3 y3 hne
     go_wp2_with fail
     go_quiet (fail)
     go_wp2
     go_roundw
     case rel => exact ⟨k + 1, _, by omega, by go_num, rfl⟩
     case measure => simp [intOf]; omega
   · obtain rfl : k = L.length := by omega
     go_wp2
     go_ret
     exact ⟨rfl, n, rfl⟩
end Rm
namespace Rm
open Kn (K okK)
open Bit (bit withB)
open Lc (at' RdK laceB WordsOk)
open Sg (bel belows closedTo orB)
structure Ow (W : World) (b : Nat) (v0 v1 v2 v3 v4 : Value) : Prop where
 lt : b < W.heap.size
 c0 : W.cell? ⟨b, 0, none⟩ = some v0
 c1 : W.cell? ⟨b, 1, none⟩ = some v1
 c2 : W.cell? ⟨b, 2, none⟩ = some v2
 c3 : W.cell? ⟨b, 3, none⟩ = some v3
 c4 : W.cell? ⟨b, 4, none⟩ = some v4
 f0 : W.frozen? ⟨b, 0, none⟩ = false
 f1 : W.frozen? ⟨b, 1, none⟩ = false
 f2 : W.frozen? ⟨b, 2, none⟩ = false
 f3 : W.frozen? ⟨b, 3, none⟩ = false
 f4 : W.frozen? ⟨b, 4, none⟩ = false
theorem ow_new (W : World) (v0 v1 v2 v3 v4 : Value) (t : TypeId) : Ow (W.alloc (.cells #[v0, v1, v2, v3, v4] t)) W.heap.size v0 v1 v2 v3 v4 := ⟨by simp, by simp, by simp, by simp, by simp, by simp, by simp, by simp, by simp, by simp, by simp⟩
theorem fro_below {W V : World} {p : Addr} (hb : Below W.heap.size W V) (hl : p.block < W.heap.size) : V.frozen? p = W.frozen? p := hb.frozen hl
theorem Ow.below {W V : World} {b : Nat} {v0 v1 v2 v3 v4 : Value} (x : Ow W b v0 v1 v2 v3 v4) (hb : Below W.heap.size W V) : Ow V b v0 v1 v2 v3 v4 :=
 ⟨Nat.lt_of_lt_of_le x.lt hb.size, (hb.cell (p := ⟨b, 0, none⟩) x.lt).trans x.c0, (hb.cell (p := ⟨b, 1, none⟩) x.lt).trans x.c1, (hb.cell (p := ⟨b, 2, none⟩) x.lt).trans x.c2, (hb.cell (p := ⟨b, 3, none⟩) x.lt).trans x.c3, (hb.cell (p := ⟨b, 4, none⟩) x.lt).trans x.c4,
  (fro_below (p := ⟨b, 0, none⟩) hb x.lt).trans x.f0, (fro_below (p := ⟨b, 1, none⟩) hb x.lt).trans x.f1, (fro_below (p := ⟨b, 2, none⟩) hb x.lt).trans x.f2, (fro_below (p := ⟨b, 3, none⟩) hb x.lt).trans x.f3, (fro_below (p := ⟨b, 4, none⟩) hb x.lt).trans x.f4⟩
theorem Ow.drew {W : World} {b : Nat} {v0 v1 v2 v3 v4 : Value} (x : Ow W b v0 v1 v2 v3 v4) : Ow W.drew b v0 v1 v2 v3 v4 := ⟨x.lt, x.c0, x.c1, x.c2, x.c3, x.c4, x.f0, x.f1, x.f2, x.f3, x.f4⟩
theorem Ow.put {W : World} {b : Nat} {v0 v1 v2 v3 v4 : Value} (x : Ow W b v0 v1 v2 v3 v4) (u0 u1 u2 u3 u4 : Value) : ∃ V, V = (((((W.setCell ⟨b, 0, none⟩ u0).setCell ⟨b, 1, none⟩ u1).setCell ⟨b, 2, none⟩ u2).setCell ⟨b, 3, none⟩ u3).setCell ⟨b, 4, none⟩ u4) ∧
   Ow V b u0 u1 u2 u3 u4 ∧ (∀ (n : Nat) (w : World), Below n w W → n ≤ b → Below n w V) ∧ V.heap.size = W.heap.size ∧ (∀ p : Addr, p.block ≠ b → V.cell? p = W.cell? p) := by
 refine ⟨_, rfl, ?_, ?_, by simp, ?_⟩
 · refine ⟨by simp; exact x.lt, ?_, ?_, ?_, ?_, ?_, ?_, ?_, ?_, ?_, ?_⟩
   · rw [World.cell?_setCell_other _ _ _ _ (by simp), World.cell?_setCell_other _ _ _ _ (by simp), World.cell?_setCell_other _ _ _ _ (by simp), World.cell?_setCell_other _ _ _ _ (by simp)]
     exact World.cell?_setCell_same _ _ _ x.c0
   · rw [World.cell?_setCell_other _ _ _ _ (by simp), World.cell?_setCell_other _ _ _ _ (by simp), World.cell?_setCell_other _ _ _ _ (by simp)]
     exact World.cell?_setCell_same _ _ _ ((World.cell?_setCell_other _ _ _ _ (by simp)).trans x.c1)
   · rw [World.cell?_setCell_other _ _ _ _ (by simp), World.cell?_setCell_other _ _ _ _ (by simp)]
     exact World.cell?_setCell_same _ _ _ ((World.cell?_setCell_other _ _ _ _ (by simp)).trans ((World.cell?_setCell_other _ _ _ _ (by simp)).trans x.c2))
   · rw [World.cell?_setCell_other _ _ _ _ (by simp)]
     exact World.cell?_setCell_same _ _ _ ((World.cell?_setCell_other _ _ _ _ (by simp)).trans ((World.cell?_setCell_other _ _ _ _ (by simp)).trans ((World.cell?_setCell_other _ _ _ _ (by simp)).trans x.c3)))
   · exact World.cell?_setCell_same _ _ _ ((World.cell?_setCell_other _ _ _ _ (by simp)).trans ((World.cell?_setCell_other _ _ _ _ (by simp)).trans ((World.cell?_setCell_other _ _ _ _ (by simp)).trans ((World.cell?_setCell_other _ _ _ _ (by simp)).trans x.c4))))
   all_goals simp only [World.frozen?_setCell]
   · exact x.f0
   · exact x.f1
   · exact x.f2
   · exact x.f3
   · exact x.f4
 · intro n w hb hn
   exact ((((hb.setCell (p := ⟨b, 0, none⟩) hn _).setCell (p := ⟨b, 1, none⟩) hn _).setCell (p := ⟨b, 2, none⟩) hn _).setCell (p := ⟨b, 3, none⟩) hn _).setCell (p := ⟨b, 4, none⟩) hn _
 · intro p hp
   have hne : ∀ i : Nat, (⟨b, i, none⟩ : Addr) ≠ p := fun i e => hp (by rw [← e])
   rw [World.cell?_setCell_other _ _ _ _ (hne 4), World.cell?_setCell_other _ _ _ _ (hne 3), World.cell?_setCell_other _ _ _ _ (hne 2), World.cell?_setCell_other _ _ _ _ (hne 1), World.cell?_setCell_other _ _ _ _ (hne 0)]
theorem rdk_other {W V : World} {g b : Nat} {L : List K} {x : Option Addr} {n m : Nat} (h : RdK W (some ⟨g, 0, none⟩) L) (hc : ∀ p : Addr, p.block ≠ b → V.cell? p = W.cell? p) (hs : V.heap.size = W.heap.size) (hx : W.cell? ⟨b, 0, none⟩ = some (.slice x n m)) : RdK V (some ⟨g, 0, none⟩) L := by
 rcases h with h | ⟨g', off, ha, hg, hk⟩
 · exact .inl h
 · by_cases hl : L.length = 0
   · exact .inl (List.length_eq_zero_iff.1 hl)
   injection ha with ha
   injection ha with h1 h2
   subst h1 h2
   have hgb : g ≠ b := by
     rintro rfl
     have q := (hk 0 (by omega)).c0
     rw [show 0 + 0 * 4 = 0 from rfl, hx] at q
     cases q
   exact .inr ⟨g, 0, rfl, by rw [hs]; exact hg, fun i hi => ⟨(hc _ hgb).trans (hk i hi).c0, (hc _ hgb).trans (hk i hi).c1, (hc _ hgb).trans (hk i hi).c2, (hc _ hgb).trans (hk i hi).c3⟩⟩
set_option maxHeartbeats 3200000 in
theorem ownerOfA (ao : Option Addr) (cap : Nat) (L : List K) (h : Hd) (a : Addr) (w : World) (hla0 : ∀ V : World, Below w.heap.size w V → Calls Tryz.prog 92 #[.slice ao L.length cap] V (Lc.LacePost L V)) (hk : H64 h) (hn : NoH w a) :
   Calls Tryz.prog 44 #[.slice ao L.length cap, .agg #[.int .i64 h.who, .int .i64 h.has, .int .i64 h.kept, .int .i64 h.last]] w (OwnerPost L h a w) := by
 have P0 : Hid (Below w.heap.size w ((w.alloc (.cells #[.int .i64 h.who, .int .i64 h.has, .int .i64 h.kept, .int .i64 h.last] 26)).alloc (.cells #[.slice none 0 0, .int .i64 0, .int .i64 0, .int .i64 0, .int .i64 0] 66)) ∧ HAt ((w.alloc (.cells #[.int .i64 h.who, .int .i64 h.has, .int .i64 h.kept, .int .i64 h.last] 26)).alloc (.cells #[.slice none 0 0, .int .i64 0, .int .i64 0, .int .i64 0, .int .i64 0] 66)) w.heap.size 0 h ∧ Ow ((w.alloc (.cells #[.int .i64 h.who, .int .i64 h.has, .int .i64 h.kept, .int .i64 h.last] 26)).alloc (.cells #[.slice none 0 0, .int .i64 0, .int .i64 0, .int .i64 0, .int .i64 0] 66)) (w.heap.size + 1) (.slice none 0 0) (.int .i64 0) (.int .i64 0) (.int .i64 0) (.int .i64 0)) :=
   ⟨((Below.refl _ w).alloc (Nat.le_refl _) _).alloc (by simp) _, hat_below (hat_new w h _) ((Below.refl _ _).alloc (Nat.le_refl _) _), by
     have q := ow_new (w.alloc (.cells #[.int .i64 h.who, .int .i64 h.has, .int .i64 h.kept, .int .i64 h.last] 26)) (.slice none 0 0) (.int .i64 0) (.int .i64 0) (.int .i64 0) (.int .i64 0) 66
     rw [World.size_alloc] at q
     exact q⟩
 have hgl : 0 < w.heap.size := cell_lt hn
 have HN : Hid (NoH w a) := hn
 clear hn
 go_enter Tryz.func44, Tryz.ntmps44
 go_upto_region 1 with fail
 generalize (w.alloc (.cells #[.int .i64 h.who, .int .i64 h.has, .int .i64 h.kept, .int .i64 h.last] 26)).alloc (.cells #[.slice none 0 0, .int .i64 0, .int .i64 0, .int .i64 0, .int .i64 0] 66) = V at P0 ⊢
 obtain ⟨hB0, hH0, hO0⟩ := P0
 have HB0 : Hid (Below w.heap.size w V) := hB0
 have HH0 : Hid (HAt V w.heap.size 0 h) := hH0
 have HO0 : Hid (Ow V (w.heap.size + 1) (.slice none 0 0) (.int .i64 0) (.int .i64 0) (.int .i64 0) (.int .i64 0)) := hO0
 have hla := hla0 V hB0
 clear hla0
 clear hB0 hH0 hO0
 go_wp2_with fail
 refine hla.mono ?_
 clear hla
 intro e V1 hp
 have HEQ : Hid (handOkB L h = (laceB L && hokB L h)) := rfl
 rcases hp with ⟨hl, g1, rfl, hg1, hr1, hb1⟩ | ⟨hl, rfl, hb1⟩
 · have HB1 : Hid (Below w.heap.size w V1) := HB0.out.trans (hb1.mono HB0.out.size)
   have HH1 : Hid (HAt V1 w.heap.size 0 h) := hat_below HH0.out hb1
   have HO1 : Hid (Ow V1 (w.heap.size + 1) (.slice none 0 0) (.int .i64 0) (.int .i64 0) (.int .i64 0) (.int .i64 0)) := HO0.out.below hb1
   clear hb1 HB0 HH0 HO0
   have HQ : Hid (Below w.heap.size w (V1.alloc (.cells #[.slice (some ⟨g1, 0, none⟩) L.length L.length, .int .i64 h.who, .int .i64 h.has, .int .i64 h.kept, .int .i64 h.last] 66)) ∧ Ow (V1.alloc (.cells #[.slice (some ⟨g1, 0, none⟩) L.length L.length, .int .i64 h.who, .int .i64 h.has, .int .i64 h.kept, .int .i64 h.last] 66)) V1.heap.size (.slice (some ⟨g1, 0, none⟩) L.length L.length) (.int .i64 h.who) (.int .i64 h.has) (.int .i64 h.kept) (.int .i64 h.last) ∧ Ow (V1.alloc (.cells #[.slice (some ⟨g1, 0, none⟩) L.length L.length, .int .i64 h.who, .int .i64 h.has, .int .i64 h.kept, .int .i64 h.last] 66)) (w.heap.size + 1) (.slice none 0 0) (.int .i64 0) (.int .i64 0) (.int .i64 0) (.int .i64 0) ∧ RdK (V1.alloc (.cells #[.slice (some ⟨g1, 0, none⟩) L.length L.length, .int .i64 h.who, .int .i64 h.has, .int .i64 h.kept, .int .i64 h.last] 66)) (some ⟨g1, 0, none⟩) L ∧ g1 < (V1.alloc (.cells #[.slice (some ⟨g1, 0, none⟩) L.length L.length, .int .i64 h.who, .int .i64 h.has, .int .i64 h.kept, .int .i64 h.last] 66)).heap.size) :=
     ⟨HB1.out.alloc HB1.out.size _, ow_new V1 _ _ _ _ _ _, HO1.out.below ((Below.refl _ _).alloc (Nat.le_refl _) _), hr1.below ((Below.refl _ _).alloc (Nat.le_refl _) _), by simp; omega⟩
   have hbs : w.heap.size + 1 < V1.heap.size := HO1.out.lt
   obtain ⟨a0, a1, a2, a3⟩ := cellsH HH1.out
   clear HO1 HB1 HH1 hr1
   go_upto_region 3 with fail
   generalize V1.alloc (.cells #[.slice (some ⟨g1, 0, none⟩) L.length L.length, .int .i64 h.who, .int .i64 h.has, .int .i64 h.kept, .int .i64 h.last] 66) = V2 at HQ ⊢
   clear a0 a1 a2 a3
   obtain ⟨hB2, hX2, hO2, hR2, hg2⟩ := HQ
   have HB2 : Hid (Below w.heap.size w V2) := hB2
   have HX2 : Hid (Ow V2 V1.heap.size (.slice (some ⟨g1, 0, none⟩) L.length L.length) (.int .i64 h.who) (.int .i64 h.has) (.int .i64 h.kept) (.int .i64 h.last)) := hX2
   have HO2 : Hid (Ow V2 (w.heap.size + 1) (.slice none 0 0) (.int .i64 0) (.int .i64 0) (.int .i64 0) (.int .i64 0)) := hO2
   have HR2 : Hid (RdK V2 (some ⟨g1, 0, none⟩) L) := hR2
   obtain ⟨_, x0, x1, x2, x3, x4, _, _, _, _, _⟩ := hX2
   have hrt := right g1 L.length L h V2 hl hk hg2 hR2
   clear hB2 hO2 hR2
   generalize V1.heap.size = xb at HX2 x0 x1 x2 x3 x4 hbs ⊢
   go_wp2_with fail
   refine hrt.mono ?_
   clear hrt
   rintro e V3 ⟨rfl, hb3⟩
   have HB3 : Hid (Below w.heap.size w V3) := HB2.out.trans (hb3.mono HB2.out.size)
   have HX3 : Hid (Ow V3 xb (.slice (some ⟨g1, 0, none⟩) L.length L.length) (.int .i64 h.who) (.int .i64 h.has) (.int .i64 h.kept) (.int .i64 h.last)) := HX2.out.below hb3
   have HO3 : Hid (Ow V3 (w.heap.size + 1) (.slice none 0 0) (.int .i64 0) (.int .i64 0) (.int .i64 0) (.int .i64 0)) := HO2.out.below hb3
   have HR3 : Hid (RdK V3 (some ⟨g1, 0, none⟩) L) := HR2.out.below hb3
   have hg3 : g1 < V3.heap.size := Nat.lt_of_lt_of_le hg2 hb3.size
   clear hb3 HB2 HX2 HO2 HR2 x0 x1 x2 x3 x4
   cases hok : hokB L h
   · have HT : Hid (handOkB L h = false) := by show _ = _; rw [HEQ.out, hl, hok]; rfl
     clear hok HX3 HR3
     have hnw : V3.cell? ⟨0, 0, none⟩ = some (.iface 189 (.pointer (some a))) := (HB3.out.cell (p := ⟨0, 0, none⟩) hgl).trans HN.out
     obtain ⟨W, hW, hOW, hBW, hsW, hcW⟩ := HO3.out.put (.slice none 0 0) (.int .i64 0) (.int .i64 0) (.int .i64 0) (.int .i64 0)
     have HW : Hid (W = _) := hW
     have HBW : Hid (Below w.heap.size w W.drew) := (hBW _ _ HB3.out (by omega)).drew
     obtain ⟨_, z0, z1, z2, z3, z4, f0, f1, f2, f3, f4⟩ := HO3.out
     have YD : Hid (Ow W.drew (w.heap.size + 1) (.slice none 0 0) (.int .i64 0) (.int .i64 0) (.int .i64 0) (.int .i64 0)) := hOW.drew
     obtain ⟨_, y0, y1, y2, y3, y4, _, _, _, _, _⟩ := YD.out
     have hne : ¬ w.heap.size + 1 = 0 := by omega
     clear hW hBW hsW hcW
     generalize w.heap.size + 1 = zb at YD HW z0 z1 z2 z3 z4 f0 f1 f2 f3 f4 y0 y1 y2 y3 y4 hne ⊢
     go_upto_region 4 with fail
     go_region
     all_goals go_wp2
     all_goals rw [← HW.out]
     all_goals refine bodyPost_ret (v := .tuple #[.agg #[.slice none 0 0, .int .i64 0, .int .i64 0, .int .i64 0, .int .i64 0], .iface 189 (.pointer (some a))]) (by simp [results, Tryz.f44, go_sem, y0, y1, y2, y3, y4]) rfl ?_
     all_goals exact .inr ⟨HT.out, rfl, HBW.out⟩
   · have HT : Hid (handOkB L h = true) := by show _ = _; rw [HEQ.out, hl, hok]; rfl
     obtain ⟨W, hW, hOW, hBW, hsW, hcW⟩ := HO3.out.put (.slice (some ⟨g1, 0, none⟩) L.length L.length) (.int .i64 h.who) (.int .i64 h.has) (.int .i64 h.kept) (.int .i64 h.last)
     have HW : Hid (W = _) := hW
     have HBW : Hid (Below w.heap.size w W) := hBW _ _ HB3.out (by omega)
     have HRW : Hid (RdK W (some ⟨g1, 0, none⟩) L ∧ g1 < W.heap.size) := by
       refine ⟨?_, by rw [hsW]; exact hg3⟩
       exact rdk_other HR3.out hcW hsW HO3.out.c0
     obtain ⟨_, x0, x1, x2, x3, x4, _, _, _, _, _⟩ := HX3.out
     obtain ⟨_, z0, z1, z2, z3, z4, f0, f1, f2, f3, f4⟩ := HO3.out
     obtain ⟨_, y0, y1, y2, y3, y4, _, _, _, _, _⟩ := hOW
     clear hok hW hBW hsW hcW
     go_wp2
     rw [← HW.out]
     refine bodyPost_ret (v := .tuple #[.agg #[.slice (some ⟨g1, 0, none⟩) L.length L.length, .int .i64 h.who, .int .i64 h.has, .int .i64 h.kept, .int .i64 h.last], .nilIface]) (by simp [results, Tryz.f44, go_sem, y0, y1, y2, y3, y4]) rfl ?_
     exact .inl ⟨HT.out, g1, rfl, HRW.out.2, HRW.out.1, HBW.out⟩
 · have HB3 : Hid (Below w.heap.size w V1) := HB0.out.trans (hb1.mono HB0.out.size)
   have HH1 : Hid (HAt V1 w.heap.size 0 h) := hat_below HH0.out hb1
   have HO1 : Hid (Ow V1 (w.heap.size + 1) (.slice none 0 0) (.int .i64 0) (.int .i64 0) (.int .i64 0) (.int .i64 0)) := HO0.out.below hb1
   have HT : Hid (handOkB L h = false) := by show _ = _; rw [HEQ.out, hl]; rfl
   clear hb1 HB0 HH0 HO0
   have HQ : Hid (Below w.heap.size w (V1.alloc (.cells #[.slice none 0 0, .int .i64 h.who, .int .i64 h.has, .int .i64 h.kept, .int .i64 h.last] 66)) ∧ Ow (V1.alloc (.cells #[.slice none 0 0, .int .i64 h.who, .int .i64 h.has, .int .i64 h.kept, .int .i64 h.last] 66)) (w.heap.size + 1) (.slice none 0 0) (.int .i64 0) (.int .i64 0) (.int .i64 0) (.int .i64 0)) :=
     ⟨HB3.out.alloc HB3.out.size _, HO1.out.below ((Below.refl _ _).alloc (Nat.le_refl _) _)⟩
   obtain ⟨a0, a1, a2, a3⟩ := cellsH HH1.out
   clear HO1 HB3 HH1
   go_upto_region 3 with fail
   generalize V1.alloc (.cells #[.slice none 0 0, .int .i64 h.who, .int .i64 h.has, .int .i64 h.kept, .int .i64 h.last] 66) = V3 at HQ ⊢
   clear a0 a1 a2 a3
   have HB3 : Hid (Below w.heap.size w V3) := HQ.out.1
   have HO3 : Hid (Ow V3 (w.heap.size + 1) (.slice none 0 0) (.int .i64 0) (.int .i64 0) (.int .i64 0) (.int .i64 0)) := HQ.out.2
   clear HQ
   have hnw : V3.cell? ⟨0, 0, none⟩ = some (.iface 189 (.pointer (some a))) := (HB3.out.cell (p := ⟨0, 0, none⟩) hgl).trans HN.out
   obtain ⟨W, hW, hOW, hBW, hsW, hcW⟩ := HO3.out.put (.slice none 0 0) (.int .i64 0) (.int .i64 0) (.int .i64 0) (.int .i64 0)
   have HW : Hid (W = _) := hW
   have HBW : Hid (Below w.heap.size w W.drew) := (hBW _ _ HB3.out (by omega)).drew
   obtain ⟨_, z0, z1, z2, z3, z4, f0, f1, f2, f3, f4⟩ := HO3.out
   have YD : Hid (Ow W.drew (w.heap.size + 1) (.slice none 0 0) (.int .i64 0) (.int .i64 0) (.int .i64 0) (.int .i64 0)) := hOW.drew
   obtain ⟨_, y0, y1, y2, y3, y4, _, _, _, _, _⟩ := YD.out
   have hne : ¬ w.heap.size + 1 = 0 := by omega
   clear hW hBW hsW hcW
   generalize w.heap.size + 1 = zb at YD HW z0 z1 z2 z3 z4 f0 f1 f2 f3 f4 y0 y1 y2 y3 y4 hne ⊢
   go_upto_region 4 with fail
   go_region
   all_goals go_wp2
   all_goals rw [← HW.out]
   all_goals refine bodyPost_ret (v := .tuple #[.agg #[.slice none 0 0, .int .i64 0, .int .i64 0, .int .i64 0, .int .i64 0], .iface 189 (.pointer (some a))]) (by simp [results, Tryz.f44, go_sem, y0, y1, y2, y3, y4]) rfl ?_
   all_goals exact .inr ⟨HT.out, rfl, HBW.out⟩
end Rm
namespace Rm
open Kn (K okK)
open Bit (bit withB)
open Lc (at' RdK laceB WordsOk handsN roundS)
open Sg (bel belows closedTo orB)
theorem tie_thread {L : List K} (hl : laceB L = true) {i m : Nat} (hi : i < L.length) (hb : bit (at' L i).frm m = true) : (at' L m).round < (at' L i).round := by
 have hm := Sg.thread_lt hl hi hb
 have hc := Lc.lace_upTo hl i hi
 simp only [Lc.canB, Bool.and_eq_true] at hc
 have hle := (Lc.lesser_iff (L.take i) (at' L i).frm (at' L i).round (L.take i).length).1 hc.2.2.1 m (by simp; omega) hb
 rwa [Lc.at_take L i m hm] at hle
theorem lesser_closed {L : List K} {h : Hd} (x : HandIs L h) (r : Int) : closedTo (belows L L.length) (draftS L h.has r) L.length = true := by
 have h60 := ((Lc.lace_iff L).1 x.lace).1
 have hb := Lc.among_bd (fun y => decide (y.round < r)) L h.has L.length h60
 have hbit : ∀ i, bit (draftS L h.has r) i = (decide (i < L.length) && (bit h.has i && decide ((at' L i).round < r))) := fun i => Lc.bit_among _ L h.has L.length h60 i
 have hcl := (Sg.closed_threads x.lace h.has x.h0 x.h1).1 ((Sg.closed_iff L h.has L.length h60 x.h0 x.h1).2 fun i _ hbi => x.chas i hbi)
 refine (Sg.closed_threads x.lace _ hb.1 hb.2).2 fun i hi hbi m hm => ?_
 have e1 := hbit i
 rw [show bit (draftS L h.has r) i = true from hbi] at e1
 have e2 := e1.symm
 rw [Bool.and_eq_true, Bool.and_eq_true, decide_eq_true_eq, decide_eq_true_eq] at e2
 have hmi := Sg.thread_lt x.lace hi hm
 have hro := tie_thread x.lace hi hm
 show bit (draftS L h.has r) m = true
 rw [hbit, decide_eq_true (show m < L.length by omega), hcl i hi e2.2.1 m hm, decide_eq_true (show (at' L m).round < r by have := e2.2.2; omega)]; rfl
def lastRI (L : List K) (last : Int) : Int := if last < 0 then -1 else (at' L last.toNat).round
theorem next_yes {L : List K} {has last : Int} (h : lastRI L last < nextTo L has 19) : nextI L has last = nextTo L has 19 := by
 unfold nextI
 rw [if_neg]
 rintro ⟨h0, h1⟩
 unfold lastRI at h
 rw [if_neg (by omega)] at h
 omega
theorem next_no {L : List K} {has last : Int} (h : ¬ lastRI L last < nextTo L has 19) : nextI L has last = -1 := by
 have hb := nextTo_bd L has 19
 unfold lastRI at h
 unfold nextI
 by_cases hl : last < 0
 · rw [if_pos hl] at h; omega
 · rw [if_neg hl] at h
   rw [if_pos ⟨by omega, by omega⟩]
end Rm
namespace Rm
open Kn (K okK)
open Bit (bit withB)
open Lc (at' RdK laceB WordsOk handsN roundS)
open Sg (bel belows closedTo orB)
def Gives (e : Ending) : Prop := ∃ v, e = .panicked [{ v := .iface 189 v, recovered := false }]
def HoldsE (W : World) (g : Nat) : Prop := ∃ v, W.cell? ⟨g, 0, none⟩ = some (.iface 189 v)
theorem HoldsE.below {W V : World} {g : Nat} (h : HoldsE W g) (hb : Below W.heap.size W V) : HoldsE V g := h.elim fun v q => ⟨v, (hb.cell (p := ⟨g, 0, none⟩) (cell_lt q)).trans q⟩
def RightPost (L : List K) (h : Hd) (w : World) (e : Ending) (w' : World) : Prop :=
 (handOkB L h = true ∧ ∃ g, e = .returned (.agg #[.slice (some ⟨g, 0, none⟩) L.length L.length, .int .i64 h.who, .int .i64 h.has, .int .i64 h.kept, .int .i64 h.last]) ∧ g < w'.heap.size ∧ RdK w' (some ⟨g, 0, none⟩) L ∧ Below w.heap.size w w') ∨
 (handOkB L h = false ∧ Gives e ∧ Below w.heap.size w w')
set_option maxHeartbeats 3200000 in
theorem rightOwner (ao : Option Addr) (cap : Nat) (L : List K) (h : Hd) (a : Addr) (w : World) (hla0 : ∀ V : World, Below w.heap.size w V → Calls Tryz.prog 92 #[.slice ao L.length cap] V (Lc.LacePost L V)) (hk : H64 h) (hn : NoH w a) :
   Calls Tryz.prog 53 #[.slice ao L.length cap, .agg #[.int .i64 h.who, .int .i64 h.has, .int .i64 h.kept, .int .i64 h.last]] w (RightPost L h w) := by
 have P0 : Hid (Below w.heap.size w ((w.alloc (.cells #[.int .i64 h.who, .int .i64 h.has, .int .i64 h.kept, .int .i64 h.last] 26)).alloc (.cells #[.slice none 0 0, .int .i64 0, .int .i64 0, .int .i64 0, .int .i64 0] 66)) ∧ HAt ((w.alloc (.cells #[.int .i64 h.who, .int .i64 h.has, .int .i64 h.kept, .int .i64 h.last] 26)).alloc (.cells #[.slice none 0 0, .int .i64 0, .int .i64 0, .int .i64 0, .int .i64 0] 66)) w.heap.size 0 h ∧ Ow ((w.alloc (.cells #[.int .i64 h.who, .int .i64 h.has, .int .i64 h.kept, .int .i64 h.last] 26)).alloc (.cells #[.slice none 0 0, .int .i64 0, .int .i64 0, .int .i64 0, .int .i64 0] 66)) (w.heap.size + 1) (.slice none 0 0) (.int .i64 0) (.int .i64 0) (.int .i64 0) (.int .i64 0)) :=
   ⟨((Below.refl _ w).alloc (Nat.le_refl _) _).alloc (by simp) _, hat_below (hat_new w h _) ((Below.refl _ _).alloc (Nat.le_refl _) _), by
     have q := ow_new (w.alloc (.cells #[.int .i64 h.who, .int .i64 h.has, .int .i64 h.kept, .int .i64 h.last] 26)) (.slice none 0 0) (.int .i64 0) (.int .i64 0) (.int .i64 0) (.int .i64 0) 66
     rw [World.size_alloc] at q
     exact q⟩
 have HN : Hid (NoH w a) := hn
 clear hn
 go_enter Tryz.func53, Tryz.ntmps53
 go_upto_region 1 with fail
 generalize (w.alloc (.cells #[.int .i64 h.who, .int .i64 h.has, .int .i64 h.kept, .int .i64 h.last] 26)).alloc (.cells #[.slice none 0 0, .int .i64 0, .int .i64 0, .int .i64 0, .int .i64 0] 66) = V at P0 ⊢
 have HB0 : Hid (Below w.heap.size w V) := P0.out.1
 have HO0 : Hid (Ow V (w.heap.size + 1) (.slice none 0 0) (.int .i64 0) (.int .i64 0) (.int .i64 0) (.int .i64 0)) := P0.out.2.2
 obtain ⟨a0, a1, a2, a3⟩ := cellsH P0.out.2.1
 have ho := ownerOfA ao cap L h a V (fun X hX => hla0 X (HB0.out.trans (hX.mono HB0.out.size))) hk (HN.out.below HB0.out)
 clear hla0 P0 HN
 go_wp2_with fail
 refine ho.mono ?_
 clear ho a0 a1 a2 a3
 intro e w1 hp
 rcases hp with ⟨hl, g, rfl, hg1, hr1, hb1⟩ | ⟨hl, rfl, hb1⟩
 · have HL : Hid (handOkB L h = true) := hl
   have HB1 : Hid (Below w.heap.size w w1) := HB0.out.trans (hb1.mono HB0.out.size)
   have HO1 : Hid (Ow w1 (w.heap.size + 1) (.slice none 0 0) (.int .i64 0) (.int .i64 0) (.int .i64 0) (.int .i64 0)) := HO0.out.below hb1
   have HQ : Hid (Below w.heap.size w (w1.alloc (.cells #[.slice (some ⟨g, 0, none⟩) L.length L.length, .int .i64 h.who, .int .i64 h.has, .int .i64 h.kept, .int .i64 h.last] 66)) ∧ Ow (w1.alloc (.cells #[.slice (some ⟨g, 0, none⟩) L.length L.length, .int .i64 h.who, .int .i64 h.has, .int .i64 h.kept, .int .i64 h.last] 66)) w1.heap.size (.slice (some ⟨g, 0, none⟩) L.length L.length) (.int .i64 h.who) (.int .i64 h.has) (.int .i64 h.kept) (.int .i64 h.last) ∧ Ow (w1.alloc (.cells #[.slice (some ⟨g, 0, none⟩) L.length L.length, .int .i64 h.who, .int .i64 h.has, .int .i64 h.kept, .int .i64 h.last] 66)) (w.heap.size + 1) (.slice none 0 0) (.int .i64 0) (.int .i64 0) (.int .i64 0) (.int .i64 0) ∧ RdK (w1.alloc (.cells #[.slice (some ⟨g, 0, none⟩) L.length L.length, .int .i64 h.who, .int .i64 h.has, .int .i64 h.kept, .int .i64 h.last] 66)) (some ⟨g, 0, none⟩) L ∧ g < (w1.alloc (.cells #[.slice (some ⟨g, 0, none⟩) L.length L.length, .int .i64 h.who, .int .i64 h.has, .int .i64 h.kept, .int .i64 h.last] 66)).heap.size) :=
     ⟨HB1.out.alloc HB1.out.size _, ow_new w1 _ _ _ _ _ _, HO1.out.below ((Below.refl _ _).alloc (Nat.le_refl _) _), hr1.below ((Below.refl _ _).alloc (Nat.le_refl _) _), by simp; omega⟩
   have hzb : w.heap.size + 1 < w1.heap.size := HO1.out.lt
   clear hl hr1 hg1 hb1 HB0 HO0 HB1 HO1
   go_upto_region 2 with fail
   generalize w1.alloc (.cells #[.slice (some ⟨g, 0, none⟩) L.length L.length, .int .i64 h.who, .int .i64 h.has, .int .i64 h.kept, .int .i64 h.last] 66) = V2 at HQ ⊢
   generalize w1.heap.size = xb at HQ hzb ⊢
   obtain ⟨_, x0, x1, x2, x3, x4, _, _, _, _, _⟩ := HQ.out.2.1
   obtain ⟨_, z0, z1, z2, z3, z4, f0, f1, f2, f3, f4⟩ := HQ.out.2.2.1
   obtain ⟨WW, hW, hOW, hBW, hsW, hcW⟩ := HQ.out.2.2.1.put (.slice (some ⟨g, 0, none⟩) L.length L.length) (.int .i64 h.who) (.int .i64 h.has) (.int .i64 h.kept) (.int .i64 h.last)
   have HW : Hid (WW = _) := hW
   have HE : Hid (g < WW.heap.size ∧ RdK WW (some ⟨g, 0, none⟩) L ∧ Below w.heap.size w WW) := ⟨by rw [hsW]; exact HQ.out.2.2.2.2, rdk_other HQ.out.2.2.2.1 hcW hsW z0, hBW _ _ HQ.out.1 (by omega)⟩
   obtain ⟨_, y0, y1, y2, y3, y4, _, _, _, _, _⟩ := hOW
   clear hW hBW hsW hcW HQ
   go_wp2
   rw [← HW.out]
   refine bodyPost_ret (v := .agg #[.slice (some ⟨g, 0, none⟩) L.length L.length, .int .i64 h.who, .int .i64 h.has, .int .i64 h.kept, .int .i64 h.last]) (by simp [results, Tryz.f53, go_sem, y0, y1, y2, y3, y4]) rfl ?_
   exact .inl ⟨HL.out, g, rfl, HE.out⟩
 · have HL : Hid (handOkB L h = false) := hl
   have HB1 : Hid (Below w.heap.size w (w1.alloc (.cells #[.slice none 0 0, .int .i64 0, .int .i64 0, .int .i64 0, .int .i64 0] 66))) := (HB0.out.trans (hb1.mono HB0.out.size)).alloc (HB0.out.trans (hb1.mono HB0.out.size)).size _
   clear hl hb1 HB0 HO0
   go_wp2
   exact ⟨rfl, .inr ⟨HL.out, ⟨_, rfl⟩, HB1.out⟩⟩
set_option maxHeartbeats 1600000 in
theorem lastRound (g cap : Nat) (L : List K) (h : Hd) (w : World) (hr : RdK w (some ⟨g, 0, none⟩) L) (hl : h.last < (L.length : Int)) (hc : L.length ≤ cap) :
   Calls Tryz.prog 101 #[.agg #[.slice (some ⟨g, 0, none⟩) L.length cap, .int .i64 h.who, .int .i64 h.has, .int .i64 h.kept, .int .i64 h.last]] w fun e w' => e = .returned (.int .i64 (lastRI L h.last)) ∧ Below w.heap.size w w' := by
 have HB : Hid (Below w.heap.size w (w.alloc (.cells #[.slice (some ⟨g, 0, none⟩) L.length cap, .int .i64 h.who, .int .i64 h.has, .int .i64 h.kept, .int .i64 h.last] 66)) ∧ Ow (w.alloc (.cells #[.slice (some ⟨g, 0, none⟩) L.length cap, .int .i64 h.who, .int .i64 h.has, .int .i64 h.kept, .int .i64 h.last] 66)) w.heap.size (.slice (some ⟨g, 0, none⟩) L.length cap) (.int .i64 h.who) (.int .i64 h.has) (.int .i64 h.kept) (.int .i64 h.last)) := ⟨(Below.refl _ w).alloc (Nat.le_refl _) _, ow_new w _ _ _ _ _ _⟩
 go_enter Tryz.func101, Tryz.ntmps101
 go_upto_region 1 with fail
 generalize w.alloc (.cells #[.slice (some ⟨g, 0, none⟩) L.length cap, .int .i64 h.who, .int .i64 h.has, .int .i64 h.kept, .int .i64 h.last] 66) = V at HB ⊢
 obtain ⟨_, x0, _, _, _, x4, _, _, _, _, _⟩ := HB.out.2
 by_cases hn : h.last < 0
 · have HE : Hid (lastRI L h.last = -1) := if_pos hn
   go_wp2
   go_ret
   exact ⟨by rw [HE.out]; rfl, HB.out.1⟩
 · obtain ⟨p, hpe⟩ := Int.eq_ofNat_of_zero_le (show 0 ≤ h.last by omega)
   have hp : p < L.length := by omega
   have HE : Hid (lastRI L h.last = (at' L p).round) := by show _ = _; unfold lastRI; rw [if_neg hn, hpe, Int.toNat_natCast]
   obtain ⟨hg, hcl⟩ := hr.on p hp
   obtain ⟨c0, c1, c2, c3⟩ := hcl.below HB.out.1 hg
   rw [Nat.zero_add] at c0 c1 c2 c3
   generalize (at' L p).round = rr at HE c1
   rw [hpe] at x4
   clear c0 c2 c3 hr hpe hn hl
   go_wp2
   go_ret
   exact ⟨by rw [HE.out]; rfl, HB.out.1⟩
set_option maxHeartbeats 3200000 in
theorem openRound (g cap : Nat) (L : List K) (h : Hd) (w : World) (hlc : laceB L = true) (hh0 : 0 ≤ h.has) (hh1 : h.has < 1152921504606846976) (hd : h.has / 2 ^ L.length = 0) (hho : Lc.HandsOk L) (hr : RdK w (some ⟨g, 0, none⟩) L) :
   Calls Tryz.prog 100 #[.agg #[.slice (some ⟨g, 0, none⟩) L.length cap, .int .i64 h.who, .int .i64 h.has, .int .i64 h.kept, .int .i64 h.last]] w fun e w' => e = .returned (.int .i64 (nextTo L h.has 19)) ∧ Below w.heap.size w w' := by
 have h60 := ((Lc.lace_iff L).1 hlc).1
 have hok : Base.okB h.has = true := (Base.okB_iff _).2 ⟨hh0, hh1⟩
 have HR : Hid (RdK w (some ⟨g, 0, none⟩) L) := hr
 have HB : Hid (Below w.heap.size w (w.alloc (.cells #[.slice (some ⟨g, 0, none⟩) L.length cap, .int .i64 h.who, .int .i64 h.has, .int .i64 h.kept, .int .i64 h.last] 66)) ∧ Ow (w.alloc (.cells #[.slice (some ⟨g, 0, none⟩) L.length cap, .int .i64 h.who, .int .i64 h.has, .int .i64 h.kept, .int .i64 h.last] 66)) w.heap.size (.slice (some ⟨g, 0, none⟩) L.length cap) (.int .i64 h.who) (.int .i64 h.has) (.int .i64 h.kept) (.int .i64 h.last)) := ⟨(Below.refl _ w).alloc (Nat.le_refl _) _, ow_new w _ _ _ _ _ _⟩
 clear hr
 go_enter Tryz.func100, Tryz.ntmps100
 go_upto_region 1 with fail
 generalize w.alloc (.cells #[.slice (some ⟨g, 0, none⟩) L.length cap, .int .i64 h.who, .int .i64 h.has, .int .i64 h.kept, .int .i64 h.last] 66) = V at HB ⊢
 have HB0 : Hid (Below w.heap.size w V) := HB.out.1
 have HO0 : Hid (Ow V w.heap.size (.slice (some ⟨g, 0, none⟩) L.length cap) (.int .i64 h.who) (.int .i64 h.has) (.int .i64 h.kept) (.int .i64 h.last)) := HB.out.2
 clear HB
 go_wp2
 go_loopw [3] (fun i wr => ∃ r : Nat, r ≤ 19 ∧ i = .int .i64 r ∧ Hid (nextTo L h.has 19 = nextTo L h.has r) ∧ Hid (Below V.heap.size V wr)) (fun i _ => (intOf i).toNat)
 case atStart => exact ⟨19, by omega, rfl, rfl, Below.refl _ _⟩
 case round =>
   obtain ⟨r, hr19, rfl, HN, HW⟩ := hrel
   cases r with
   | zero =>
     go_wp2
     go_ret
     exact ⟨by rw [HN.out]; rfl, HB0.out.trans (HW.out.mono HB0.out.size)⟩
   | succ r =>
     have HV : Hid (Below w.heap.size w wr) := HB0.out.trans (HW.out.mono HB0.out.size)
     have HO1 : Hid (Ow wr w.heap.size (.slice (some ⟨g, 0, none⟩) L.length cap) (.int .i64 h.who) (.int .i64 h.has) (.int .i64 h.kept) (.int .i64 h.last)) := HO0.out.below HW.out
     have HN1 : Hid (nextTo L h.has (r + 1) = if 3 ≤ handsN L (roundS L h.has (r : Int)) then ((r + 1 : Nat) : Int) else nextTo L h.has r) := rfl
     have hwp : IntKind.i64.wrap (((r + 1 : Nat) : Int) - 1) = (r : Int) := by rw [IntKind.wrap_i64]; omega
     have hbd := Lc.round_bd L h.has (r : Int) h60
     have HAR : Hid (∀ W : World, Below wr.heap.size wr W → Calls Tryz.prog 135 #[.slice (some ⟨g, 0, none⟩) L.length cap, .int .i64 h.has, .int .i64 (r : Int)] W fun e w' => e = .returned (.int .i64 (roundS L h.has (r : Int))) ∧ Below wr.heap.size wr w') := fun W hW => (Lc.atRound g 0 cap L h.has (r : Int) W h60 hok ((HR.out.below HV.out).below hW)).mono fun _ _ q => ⟨q.1, hW.trans (q.2.mono hW.size)⟩
     have HHA : Hid (∀ W : World, Below wr.heap.size wr W → Calls Tryz.prog 134 #[.slice (some ⟨g, 0, none⟩) L.length cap, .int .i64 (roundS L h.has (r : Int))] W fun e w' => e = .returned (.int .i64 (handsN L (roundS L h.has (r : Int)))) ∧ Below wr.heap.size wr w') := fun W hW => (Lc.hands g 0 cap L _ W h60 hbd.1 hbd.2.1 hbd.2.2 hho ((HR.out.below HV.out).below hW)).mono fun _ _ q => ⟨q.1, hW.trans (q.2.mono hW.size)⟩
     generalize roundS L h.has (r : Int) = rs at HAR HHA HN1
     generalize handsN L rs = hn at HHA HN1
     obtain ⟨X, _, F, HF, HG⟩ := Fam.fam wr
     have HC : Hid (∀ z, Ow (F z) w.heap.size (.slice (some ⟨g, 0, none⟩) L.length cap) (.int .i64 h.who) (.int .i64 h.has) (.int .i64 h.kept) (.int .i64 h.last)) := fun z => HO1.out.below (HF.out z)
     have d0 : ∀ z, (F z).cell? ⟨w.heap.size, 0, none⟩ = some (.slice (some ⟨g, 0, none⟩) L.length cap) := fun z => (HC.out z).c0
     have d2 : ∀ z, (F z).cell? ⟨w.heap.size, 2, none⟩ = some (.int .i64 h.has) := fun z => (HC.out z).c2
     clear HC hbd HO1
     go_upto_region 4 with fail
     refine Fam.region (F := F) (by kernel_rfl) (by kernel_rfl) (HG.out _ (Below.refl _ wr).drew) ?_
     repeat (go_big_quiet_step (first
       | (go_at_call 135; exact (HAR.out _ (HF.out _)).mono fun _ _ q => ⟨q.1, HG.out _ q.2⟩)
       | (go_at_call 134; exact (HHA.out _ (HF.out _)).mono fun _ _ q => ⟨q.1, HG.out _ q.2⟩)))
     refine wpQuiet_nil ?_
     intro w2 hw2
     obtain ⟨z, rfl⟩ := hw2
     have HB2 : Hid (Below wr.heap.size wr (F z)) := HF.out z
     clear d0 d2 HAR HHA
     generalize F z = W2 at HB2 ⊢
     clear HF HG
     by_cases hq : 3 ≤ hn
     · go_wp2
       go_ret
       exact ⟨by rw [HN.out, HN1.out, if_pos hq]; rfl, HV.out.trans (HB2.out.mono HV.out.size)⟩
     · go_wp2
       go_roundw
       case rel => exact ⟨r, by omega, rfl, by show _ = _; rw [HN.out, HN1.out, if_neg hq], HW.out.trans (HB2.out.mono HW.out.size)⟩
       case measure => simp [intOf]
def NextPost (L : List K) (h : Hd) (w : World) (e : Ending) (w' : World) : Prop :=
 ((0 ≤ nextI L h.has h.last ∧ e = .returned (.int .i64 (nextI L h.has h.last))) ∨ (nextI L h.has h.last = -1 ∧ Gives e)) ∧ Below w.heap.size w w'
set_option maxHeartbeats 3200000 in
theorem nextRound (g cap : Nat) (L : List K) (h : Hd) (w : World) (hi : HandIs L h) (hc : L.length ≤ cap) (hr : RdK w (some ⟨g, 0, none⟩) L) (he : HoldsE w 6) :
   Calls Tryz.prog 61 #[.agg #[.slice (some ⟨g, 0, none⟩) L.length cap, .int .i64 h.who, .int .i64 h.has, .int .i64 h.kept, .int .i64 h.last]] w (NextPost L h w) := by
 have h60 := ((Lc.lace_iff L).1 hi.lace).1
 have hla : h.last < (L.length : Int) := by rw [hi.last]; have := lastTo_bd L h.who h.kept L.length; omega
 have hd : h.has / 2 ^ L.length = 0 := Lc.div_of_bits _ _ hi.h0 fun i hl => by
   cases hb : bit h.has i
   · rfl
   · exact absurd (hi.inn i hb) (by omega)
 have hho : Lc.HandsOk L := Lc.lace_hands hi.lace
 have HR : Hid (RdK w (some ⟨g, 0, none⟩) L) := hr
 have HEO : Hid (HoldsE w 6) := he
 have HB : Hid (Below w.heap.size w (w.alloc (.cells #[.slice (some ⟨g, 0, none⟩) L.length cap, .int .i64 h.who, .int .i64 h.has, .int .i64 h.kept, .int .i64 h.last] 66)) ∧ Ow (w.alloc (.cells #[.slice (some ⟨g, 0, none⟩) L.length cap, .int .i64 h.who, .int .i64 h.has, .int .i64 h.kept, .int .i64 h.last] 66)) w.heap.size (.slice (some ⟨g, 0, none⟩) L.length cap) (.int .i64 h.who) (.int .i64 h.has) (.int .i64 h.kept) (.int .i64 h.last)) := ⟨(Below.refl _ w).alloc (Nat.le_refl _) _, ow_new w _ _ _ _ _ _⟩
 clear hr he
 go_enter Tryz.func61, Tryz.ntmps61
 go_upto_region 1 with fail
 generalize w.alloc (.cells #[.slice (some ⟨g, 0, none⟩) L.length cap, .int .i64 h.who, .int .i64 h.has, .int .i64 h.kept, .int .i64 h.last] 66) = V at HB ⊢
 have HB0 : Hid (Below w.heap.size w V) := HB.out.1
 have HO0 : Hid (Ow V w.heap.size (.slice (some ⟨g, 0, none⟩) L.length cap) (.int .i64 h.who) (.int .i64 h.has) (.int .i64 h.kept) (.int .i64 h.last)) := HB.out.2
 obtain ⟨_, x0, x1, x2, x3, x4, _, _, _, _, _⟩ := HB.out.2
 clear HB
 have hop := openRound g cap L h V hi.lace hi.h0 hi.h1 hd hho (HR.out.below HB0.out)
 go_wp2_with fail
 refine hop.mono ?_
 rintro e w1 ⟨rfl, hb1⟩
 have HB1 : Hid (Below w.heap.size w w1) := HB0.out.trans (hb1.mono HB0.out.size)
 have HO1 : Hid (Ow w1 w.heap.size (.slice (some ⟨g, 0, none⟩) L.length cap) (.int .i64 h.who) (.int .i64 h.has) (.int .i64 h.kept) (.int .i64 h.last)) := HO0.out.below hb1
 clear x0 x1 x2 x3 x4 hop HB0 HO0 hb1
 obtain ⟨_, x0, x1, x2, x3, x4, _, _, _, _, _⟩ := HO1.out
 have hlr := lastRound g cap L h w1 (HR.out.below HB1.out) hla hc
 have HY : Hid (lastRI L h.last < nextTo L h.has 19 → nextI L h.has h.last = nextTo L h.has 19) := next_yes
 have HNO : Hid (¬ lastRI L h.last < nextTo L h.has 19 → nextI L h.has h.last = -1) := next_no
 have hnb := (nextTo_bd L h.has 19).1
 generalize nextTo L h.has 19 = nx at HY HNO hnb ⊢
 generalize lastRI L h.last = lr at HY HNO hlr
 go_wp2_with fail
 refine hlr.mono ?_
 rintro e w2 ⟨rfl, hb2⟩
 have HB2 : Hid (Below w.heap.size w w2) := HB1.out.trans (hb2.mono HB1.out.size)
 clear hlr x0 x1 x2 x3 x4 HO1 HB1 hb2
 obtain ⟨v, hv⟩ := HEO.out.below HB2.out
 by_cases hq : lr < nx
 · go_wp2
   go_ret
   exact ⟨.inl ⟨by rw [HY.out hq]; exact hnb, by rw [HY.out hq]; rfl⟩, HB2.out⟩
 · go_wp2
   exact ⟨rfl, .inr ⟨HNO.out hq, ⟨_, rfl⟩⟩, HB2.out⟩
end Rm
namespace Rm
open Kn (K)
structure KnAt (w : World) (b : Nat) (k : K) : Prop where
 lt : b < w.heap.size
 c0 : w.cell? ⟨b, 0, none⟩ = some (.int .i64 k.hand)
 c1 : w.cell? ⟨b, 1, none⟩ = some (.int .i64 k.round)
 c2 : w.cell? ⟨b, 2, none⟩ = some (.int .i64 k.frm)
 c3 : w.cell? ⟨b, 3, none⟩ = some (.string k.word)
theorem knat_below {w w' : World} {b : Nat} {k : K} (x : KnAt w b k) (hb : Below w.heap.size w w') : KnAt w' b k :=
 ⟨Nat.lt_of_lt_of_le x.lt hb.size, (hb.cell (p := ⟨b, 0, none⟩) x.lt).trans x.c0, (hb.cell (p := ⟨b, 1, none⟩) x.lt).trans x.c1, (hb.cell (p := ⟨b, 2, none⟩) x.lt).trans x.c2, (hb.cell (p := ⟨b, 3, none⟩) x.lt).trans x.c3⟩
theorem knat_new (w : World) (k : K) (t : TypeId) : KnAt (w.alloc (.cells #[.int .i64 k.hand, .int .i64 k.round, .int .i64 k.frm, .string k.word] t)) w.heap.size k := ⟨by simp, by simp, by simp, by simp, by simp⟩
theorem knat_cells {w : World} {b : Nat} {k : K} (x : KnAt w b k) : w.cell? ⟨b, 0, none⟩ = some (.int .i64 k.hand) ∧ w.cell? ⟨b, 1, none⟩ = some (.int .i64 k.round) ∧ w.cell? ⟨b, 2, none⟩ = some (.int .i64 k.frm) ∧ w.cell? ⟨b, 3, none⟩ = some (.string k.word) := ⟨x.c0, x.c1, x.c2, x.c3⟩
theorem zeroQ_new (w : World) (t : TypeId) : Kn.Zero w.heap.size (w.alloc (.cells #[.int .i64 0, .int .i64 0, .int .i64 0, .string ⟨#[]⟩] t)) := ⟨by simp, by simp, by simp, by simp, by simp, by simp, by simp, by simp, by simp⟩
theorem keepQ {X Y : World} {t : TypeId} (b : Below (X.alloc (.cells #[.int .i64 0, .int .i64 0, .int .i64 0, .string ⟨#[]⟩] t)).heap.size (X.alloc (.cells #[.int .i64 0, .int .i64 0, .int .i64 0, .string ⟨#[]⟩] t)) Y) : Kn.Zero X.heap.size Y := (zeroQ_new X t).below b
theorem keepQ' {X Y : World} {t : TypeId} (b : Below (X.alloc (.cells #[.int .i64 0, .int .i64 0, .int .i64 0, .string ⟨#[]⟩] t)).drew.heap.size (X.alloc (.cells #[.int .i64 0, .int .i64 0, .int .i64 0, .string ⟨#[]⟩] t)).drew Y) : Kn.Zero X.heap.size Y := (zeroQ_new X t).below ⟨b.os, b.tape, b.output, b.size, b.block⟩
theorem knat_put4 {W : World} {b : Nat} (x : Kn.Zero b W) (y : K) : KnAt ((((W.setCell ⟨b, 0, none⟩ (.int .i64 y.hand)).setCell ⟨b, 1, none⟩ (.int .i64 y.round)).setCell ⟨b, 2, none⟩ (.int .i64 y.frm)).setCell ⟨b, 3, none⟩ (.string y.word)) b y := by
 have q := x.put (.int .i64 y.hand) (.int .i64 y.round) (.int .i64 y.frm) (.string y.word)
 exact ⟨by simpa using x.lt, q.1, q.2.1, q.2.2.1, q.2.2.2⟩
theorem zeroQc {w : World} {b : Nat} (z : Kn.Zero b w) : w.cell? ⟨b, 0, none⟩ = some (.int .i64 0) ∧ w.cell? ⟨b, 1, none⟩ = some (.int .i64 0) ∧ w.cell? ⟨b, 2, none⟩ = some (.int .i64 0) ∧ w.cell? ⟨b, 3, none⟩ = some (.string ⟨#[]⟩) := ⟨z.r0, z.r1, z.r2, z.r3⟩
theorem zeroQf {w : World} {b : Nat} (z : Kn.Zero b w) : w.frozen? ⟨b, 0, none⟩ = false ∧ w.frozen? ⟨b, 1, none⟩ = false ∧ w.frozen? ⟨b, 2, none⟩ = false ∧ w.frozen? ⟨b, 3, none⟩ = false := ⟨z.f0, z.f1, z.f2, z.f3⟩
end Rm
end Go.Proofs.YtfjmenhofllchaaGreatDoor
