/-
 What the model answers for the doubled ones: for each knot the set of those of its hand that it doesn't see and that don't see it; for laces of at most 60 knots.
-/
import Derived.Test.YtflhaiakhfmmmaaGreatOLaceA
import Derived.Test.YtflhaiakhfmmmaaGreatOLike
import Derived.BigRegion
namespace Go.Proofs.YtflhaiakhfmmmaaGreat
open Go.RowKit
set_option maxRecDepth 100000
namespace Sg
open Kn (K okK)
open Bit (bit)
open Lc (at')
def orB (a b : Int) : Int := ((a.toNat ||| b.toNat : Nat) : Int)
theorem orB_bd (a b : Int) (h0 : 0 ≤ a) (h1 : a < 1152921504606846976) (h2 : 0 ≤ b) (h3 : b < 1152921504606846976) : 0 ≤ orB a b ∧ orB a b < 1152921504606846976 := by
 have hx : a.toNat ||| b.toNat < 2 ^ 60 := Nat.or_lt_two_pow (by omega) (by omega)
 unfold orB; omega
theorem or_eq (a b : Int) (h0 : 0 ≤ a) (h1 : a < 1152921504606846976) (h2 : 0 ≤ b) (h3 : b < 1152921504606846976) : bits .or .i64 a b = orB a b := Bit.i64_or a b h0 (by omega) h2 (by omega)
theorem bit_orB (a b : Int) (h0 : 0 ≤ a) (h2 : 0 ≤ b) (i : Nat) : bit (orB a b) i = (bit a i || bit b i) := by
 rw [Bit.bit_testBit _ (by unfold orB; omega), Bit.bit_testBit a h0, Bit.bit_testBit b h2]
 unfold orB
 rw [Int.toNat_natCast, Nat.testBit_or]
def accB (f : Int) (l : List Int) (i : Nat) : Nat → Int
 | 0 => 2 ^ i
 | k + 1 => if bit f k then orB (accB f l i k) (l.getD k 0) else accB f l i k
def Within (l : List Int) : Prop := ∀ x ∈ l, 0 ≤ x ∧ x < 1152921504606846976
theorem within_get {l : List Int} (h : Within l) (k : Nat) : 0 ≤ l.getD k 0 ∧ l.getD k 0 < 1152921504606846976 := by
 by_cases hk : k < l.length
 · exact h _ (by simp [List.getD, List.getElem?_eq_getElem hk])
 · simp [List.getD, List.getElem?_eq_none (Nat.le_of_not_lt hk)]
theorem accB_bd (f : Int) (l : List Int) (i k : Nat) (hi : i < 60) (hl : Within l) : 0 ≤ accB f l i k ∧ accB f l i k < 1152921504606846976 := by
 induction k with
 | zero => have := Base.pow_bd i hi; exact ⟨by unfold accB; omega, this.2⟩
 | succ k ih =>
   unfold accB
   split
   · have := within_get hl k
     exact orB_bd _ _ ih.1 ih.2 this.1 this.2
   · exact ih
def belows (L : List K) : Nat → List Int
 | 0 => []
 | n + 1 => belows L n ++ [accB (at' L n).frm (belows L n) n n]
theorem belows_len (L : List K) (n : Nat) : (belows L n).length = n := by
 induction n with
 | zero => rfl
 | succ n ih => unfold belows; simp [ih]
theorem belows_in (L : List K) (n : Nat) (hn : n ≤ 60) : Within (belows L n) := by
 induction n with
 | zero => intro x hx; simp [belows] at hx
 | succ n ih =>
   have ih := ih (by omega)
   intro x hx
   unfold belows at hx
   rw [List.mem_append] at hx
   rcases hx with hx | hx
   · exact ih x hx
   · simp at hx; rw [hx]; exact accB_bd _ _ _ _ (by omega) ih
def closedTo (l : List Int) (s : Int) (n : Nat) : Bool := (List.range n).all fun i => !bit s i || (bits .andNot .i64 (l.getD i 0) s == 0)
theorem closed_step (l : List Int) (s : Int) (n : Nat) : closedTo l s (n + 1) = (closedTo l s n && (!bit s n || (bits .andNot .i64 (l.getD n 0) s == 0))) := by
 unfold closedTo; rw [List.range_succ]; simp
theorem closed_no (l : List Int) (s : Int) (n m : Nat) (h : n < m) (hb : bit s n = true) (hq : (bits .andNot .i64 (l.getD n 0) s == 0) = false) : closedTo l s m = false := by
 unfold closedTo
 rw [List.all_eq_false]
 exact ⟨n, by simpa using h, by rw [hb, hq]; decide⟩
def tipsTo (l : List Int) (s : Int) : Nat → Int
 | 0 => s
 | n + 1 => if bit s n then bits .andNot .i64 (tipsTo l s n) (bits .andNot .i64 (l.getD n 0) (2 ^ n)) else tipsTo l s n
def FrmOk (L : List K) : Prop := ∀ k ∈ L, 0 ≤ k.frm ∧ k.frm < 1152921504606846976
theorem frm_lace {L : List K} (h : Lc.laceB L = true) : FrmOk L := by
 intro k hk
 obtain ⟨i, hi, rfl⟩ := List.getElem_of_mem hk
 have := Lc.ok_frm (Lc.can_ok (Lc.lace_upTo h i hi))
 rwa [Lc.at_get L i hi] at this
end Sg
namespace Sg
open Kn (K okK)
open Bit (bit)
open Lc (at' RdK)
open Memb (Own)
def NumsPost (l : List Int) (w : World) (e : Ending) (w' : World) : Prop := ∃ ao cap, e = .returned (.slice ao l.length cap) ∧ Own w.heap.size w' ao cap l ∧ Below w.heap.size w w'
theorem one_new (W : World) (x : Int) (t : TypeId) : ∀ (j : Nat) u, ([Value.int .i64 x])[j]? = some u → (W.alloc (.cells #[.int .i64 x] t)).cell? ((⟨W.heap.size, 0, none⟩ : Addr).add j) = some u := by
 intro q u hq
 match q, hq with
 | 0, hq => simp at hq; subst hq; simp [Addr.add]
theorem one_one (x : Int) : ∀ u ∈ [Value.int .i64 x], u.oneCell' = true := by
 intro u hu; simp at hu; subst hu; rfl
set_option maxHeartbeats 3200000 in
theorem l4All (ao : Option Addr) (cap : Nat) (L : List K) (w : World) (hL : L.length ≤ 60) (hf : FrmOk L) (hr : RdK w ao L) :
   Calls Tryz.prog 39 #[.slice ao L.length cap] w (NumsPost (belows L L.length) w) := by
 obtain ⟨i0, hi, hz0, hz1, hz2⟩ := info_parts Memb.info2
 go_enter Tryz.func39, Tryz.ntmps39
 go_wp2
 go_loopw [3, 4] (fun v i wr => ∃ j : Nat, j ≤ L.length ∧ i = .int .i64 j ∧ Hid (wr.ownsRow w.heap.size 2 1 v (belows L j).length ((belows L j).map (Value.int .i64))) ∧ Hid (Below w.heap.size w wr)) (fun _ i _ => L.length - (intOf i).toNat)
 case atStart => exact ⟨0, by omega, rfl, Memb.own_empty w, (Below.refl _ _).alloc (Nat.le_refl _) _⟩
 case round =>
   obtain ⟨j, hj, rfl, HO, HB⟩ := hrel
   by_cases hlt : j < L.length
   · obtain ⟨g, off, rfl, hg, hc⟩ := hr.at j hlt
     obtain ⟨_, _, c2, _⟩ := hc.below HB.out hg
     have hfj := hf _ (Lc.at_mem L j hlt)
     have hbl := belows_len L j
     have hbi := belows_in L j (by omega)
     obtain ⟨bo, bc, hv, hown⟩ := Memb.own_shape HO.out
     subst hv
     have hrd := Lst.own_rd hown
     have HS : Hid (belows L (j + 1) = belows L j ++ [accB (at' L j).frm (belows L j) j j]) := rfl
     have HOA : Hid (∀ o : Obj, (wr.alloc o).ownsRow w.heap.size 2 1 (.slice bo (belows L j).length bc) (belows L j).length ((belows L j).map (Value.int .i64))) := fun o => hown.alloc o
     clear hc
     have HBL : Hid ((belows L j).length = j) := hbl
     have hl60 : (belows L j).length ≤ 60 := by omega
     clear hbl
     generalize belows L j = l at HS HO hown hrd HBL hl60 hbi HOA ⊢
     go_wp2_with (go_at_call 49; refine (Base.l1Bit _ _ (by omega) (by omega)).mono ?_; rintro e w' ⟨rfl, rfl⟩; rw [Int.toNat_natCast])
     go_loop [5, 6] (fun s k => ∃ m : Nat, m ≤ j ∧ k = .int .i64 m ∧ s = .int .i64 (accB (at' L j).frm l j m)) (fun _ k => j - (intOf k).toNat)
     case atStart => exact ⟨0, by omega, rfl, rfl⟩
     case round =>
       obtain ⟨m, hm, rfl, rfl⟩ := hrel
       by_cases hml : m < j
       · have hab := accB_bd (at' L j).frm l j m (by omega) hbi
         have hgb := within_get hbi m
         have HA : Hid (accB (at' L j).frm l j (m + 1) = if bit (at' L j).frm m then orB (accB (at' L j).frm l j m) (l.getD m 0) else accB (at' L j).frm l j m) := rfl
         rcases hrd with hrd | ⟨b, rfl, hcell⟩
         · have := HBL.out; rw [hrd] at this; simp at this; omega
         have cm := hcell m (by have := HBL.out; omega)
         have hml2 : (m : Int) < (l.length : Int) := by have := HBL.out; omega
         have hor := or_eq _ _ hab.1 hab.2 hgb.1 hgb.2
         clear hcell hgb hab
         generalize accB (at' L j).frm l j m = x at HA hor ⊢
         generalize l.getD m 0 = y at HA hor cm
         cases hb : bit (at' L j).frm m
         · have HD : Hid (accB (at' L j).frm l j (m + 1) = x) := by show _ = _; rw [HA.out, hb]; rfl
           have HBb : Hid (bit (at' L j).frm m = false) := hb
           clear hb HA hor
           go_wp2_with (go_at_call 48; refine (Base.l1Has _ _ _ hfj.1 hfj.2 (by omega) (by omega)).mono ?_; rintro e w' ⟨rfl, rfl⟩; rw [Int.toNat_natCast, HBb.out])
           go_round
           case rel => exact ⟨m + 1, by omega, by go_num, by rw [HD.out]⟩
           case measure => simp [intOf]; omega
         · have HD : Hid (accB (at' L j).frm l j (m + 1) = orB x y) := by show _ = _; rw [HA.out, hb]; rfl
           have HBb : Hid (bit (at' L j).frm m = true) := hb
           have HOr : Hid (bits .or .i64 x y = orB x y) := hor
           clear hb HA hor
           go_wp2_with (go_at_call 48; refine (Base.l1Has _ _ _ hfj.1 hfj.2 (by omega) (by omega)).mono ?_; rintro e w' ⟨rfl, rfl⟩; rw [Int.toNat_natCast, HBb.out])
           go_round
           case rel => exact ⟨m + 1, by omega, by go_num, by rw [HD.out, HOr.out]⟩
           case measure => simp [intOf]; omega
       · obtain rfl : m = j := by omega
         generalize accB (at' L m).frm l m m = x at HS ⊢
         clear hrd c2
         go_wp2_with (at_builtin; refine wpList_append_own _ rfl _ _ 25 rfl w.heap.size 2 i0 (.int .i64 0) 1 8 Tryz.underlying25 hi hz0 hz1 hz2 rfl (by decide) _ _ _ rfl (HOA.out _) ⟨wr.heap.size, 0, none⟩ 1 1 [.int .i64 x] rfl rfl (one_new wr x _) (one_one x) ?c3 ?c4 ?c5 ?_)
         case c3 => unfold maxLen; omega
         case c4 => omega
         case c5 => have := HB.out.size; simp; omega
         intro v' w1 hown' hgrow _
         have R := Memb.rel_put HS.out HB.out.size HO.out HB.out hown' hgrow
         have HO1 : Hid _ := R.1
         have HB1 : Hid _ := R.2.1
         clear hown' hgrow R hown HO HB HOA
         go_wp2
         go_roundw
         case rel => exact ⟨m + 1, by omega, by go_num, HO1, HB1⟩
         case measure => simp [intOf]; omega
   · obtain rfl : j = L.length := by omega
     obtain ⟨bo, bc, hv, hown⟩ := Memb.own_shape HO.out
     have HV : Hid (u3 = .slice bo (belows L L.length).length bc) := hv
     clear hv
     go_wp2
     go_ret
     exact ⟨bo, bc, by rw [← HV.out]; rfl, hown, HB.out⟩
set_option maxHeartbeats 1600000 in
theorem l4Closed (bo : Option Addr) (cap : Nat) (l : List Int) (s : Int) (w : World) (hl : l.length ≤ 60) (h0 : 0 ≤ s) (h1 : s < 1152921504606846976) (hrd : Lst.Rd w bo l) :
   Calls Tryz.prog 113 #[.slice bo l.length cap, .int .i64 s] w fun e w' => e = .returned (.bool (closedTo l s l.length)) ∧ w = w' := by
 go_enter Tryz.func113, Tryz.ntmps113
 go_wp2
 go_loop [5] (fun i => ∃ j : Nat, j ≤ l.length ∧ i = .int .i64 j ∧ Hid (closedTo l s j = true)) (fun i => l.length - (intOf i).toNat)
 case atStart => exact ⟨0, by omega, rfl, rfl⟩
 case round =>
   obtain ⟨j, hj, rfl, HC⟩ := hrel
   by_cases hlt : j < l.length
   · rcases hrd with hrd | ⟨b, rfl, hcell⟩
     · rw [hrd] at hlt; simp at hlt
     have cj := hcell j hlt
     have HST : Hid (closedTo l s (j + 1) = (closedTo l s j && (!bit s j || (bits .andNot .i64 (l.getD j 0) s == 0)))) := closed_step l s j
     have HNO : Hid (bit s j = true → (bits .andNot .i64 (l.getD j 0) s == 0) = false → closedTo l s l.length = false) := closed_no l s j l.length hlt
     clear hcell
     generalize l.getD j 0 = y at HST HNO cj
     cases hb : bit s j
     · have HS : Hid (closedTo l s (j + 1) = true) := by show _ = _; rw [HST.out, HC.out, hb]; rfl
       have HBb : Hid (bit s j = false) := hb
       clear hb HST HNO HC
       go_wp2_with (go_at_call 48; refine (Base.l1Has _ _ _ h0 h1 (by omega) (by omega)).mono ?_; rintro e w' ⟨rfl, rfl⟩; rw [Int.toNat_natCast, HBb.out])
       go_round
       case rel => exact ⟨j + 1, by omega, by go_num, HS⟩
       case measure => simp [intOf]; omega
     · have HBb : Hid (bit s j = true) := hb
       cases hq : (bits .andNot .i64 y s == 0)
       · have HS : Hid (closedTo l s l.length = false) := HNO.out hb hq
         have hq' : (bits .andNot .i64 y s != 0) = true := by rw [bne, hq]; rfl
         clear hb hq HST HNO HC
         go_wp2_with (go_at_call 48; refine (Base.l1Has _ _ _ h0 h1 (by omega) (by omega)).mono ?_; rintro e w' ⟨rfl, rfl⟩; rw [Int.toNat_natCast, HBb.out])
         go_ret
         exact ⟨by rw [HS.out]; rfl, rfl⟩
       · have HS : Hid (closedTo l s (j + 1) = true) := by show _ = _; rw [HST.out, HC.out, hb, hq]; rfl
         have hq' : (bits .andNot .i64 y s != 0) = false := by rw [bne, hq]; rfl
         clear hb hq HST HNO HC
         go_wp2_with (go_at_call 48; refine (Base.l1Has _ _ _ h0 h1 (by omega) (by omega)).mono ?_; rintro e w' ⟨rfl, rfl⟩; rw [Int.toNat_natCast, HBb.out])
         go_round
         case rel => exact ⟨j + 1, by omega, by go_num, HS⟩
         case measure => simp [intOf]; omega
   · obtain rfl : j = l.length := by omega
     go_wp2
     go_ret
     exact ⟨by rw [HC.out]; rfl, rfl⟩
set_option maxHeartbeats 1600000 in
theorem l4Tips (bo : Option Addr) (cap : Nat) (l : List Int) (s : Int) (w : World) (hl : l.length ≤ 60) (h0 : 0 ≤ s) (h1 : s < 1152921504606846976) (hrd : Lst.Rd w bo l) :
   Calls Tryz.prog 181 #[.slice bo l.length cap, .int .i64 s] w fun e w' => e = .returned (.int .i64 (tipsTo l s l.length)) ∧ ∃ n, w' = w.drewN n := by
 go_enter Tryz.func181, Tryz.ntmps181
 go_wp2
 go_loopw [5, 6] (fun o i wr => ∃ j n : Nat, j ≤ l.length ∧ i = .int .i64 j ∧ o = .int .i64 (tipsTo l s j) ∧ wr = w.drewN n) (fun _ i _ => l.length - (intOf i).toNat)
 case atStart => exact ⟨0, 0, by omega, rfl, rfl, rfl⟩
 case round =>
   obtain ⟨j, n, hj, rfl, rfl, rfl⟩ := hrel
   by_cases hlt : j < l.length
   · rcases hrd with hrd | ⟨b, rfl, hcell⟩
     · rw [hrd] at hlt; simp at hlt
     have cj := hcell j hlt
     have HST : Hid (tipsTo l s (j + 1) = if bit s j then bits .andNot .i64 (tipsTo l s j) (bits .andNot .i64 (l.getD j 0) (2 ^ j)) else tipsTo l s j) := rfl
     clear hcell
     generalize l.getD j 0 = y at HST cj
     generalize tipsTo l s j = x at HST ⊢
     cases hb : bit s j
     · have HS : Hid (tipsTo l s (j + 1) = x) := by show _ = _; rw [HST.out, hb]; rfl
       have HBb : Hid (bit s j = false) := hb
       clear hb HST
       go_wp2_with (go_at_call 48; refine (Base.l1Has _ _ _ h0 h1 (by omega) (by omega)).mono ?_; rintro e w' ⟨rfl, rfl⟩; rw [Int.toNat_natCast, HBb.out])
       go_roundw
       case rel => exact ⟨j + 1, n, by omega, by go_num, by rw [HS.out], rfl⟩
       case measure => simp [intOf]; omega
     · have HS : Hid (tipsTo l s (j + 1) = bits .andNot .i64 x (bits .andNot .i64 y (2 ^ j))) := by show _ = _; rw [HST.out, hb]; rfl
       have HBb : Hid (bit s j = true) := hb
       have hcall : ∀ V : World, Calls Tryz.prog 49 #[.int .i64 (j : Int)] V fun e w' => e = .returned (.int .i64 (2 ^ j)) ∧ w' = V := by
         intro V
         refine (Base.l1Bit (j : Int) V (by omega) (by omega)).mono ?_
         rintro e w' ⟨rfl, rfl⟩
         exact ⟨by rw [Int.toNat_natCast], rfl⟩
       clear hb HST
       go_wp2_with (first | (go_at_call 48; refine (Base.l1Has _ _ _ h0 h1 (by omega) (by omega)).mono ?_; rintro e w' ⟨rfl, rfl⟩; rw [Int.toNat_natCast, HBb.out]) | fail)
       go_quiet (first | (go_at_call 49; exact (hcall _).mono fun _ _ h => ⟨h.1, _, h.2⟩))
       go_wp2
       go_roundw
       case rel => exact ⟨j + 1, n + nq, by omega, by go_num, by rw [HS.out], by simp⟩
       case measure => simp [intOf]; omega
   · obtain rfl : j = l.length := by omega
     go_wp2
     go_ret
     exact ⟨rfl, n, rfl⟩
end Sg
namespace Sg
open Kn (K okK)
open Bit (bit)
open Lc (at')
theorem bit_pow (i j : Nat) : bit (2 ^ i) j = decide (j = i) := by
 have h : ((2 : Int) ^ i).toNat = 2 ^ i := by
   rw [show ((2 : Int) ^ i) = ((2 ^ i : Nat) : Int) by simp, Int.toNat_natCast]
 rw [Bit.bit_testBit _ (Int.le_of_lt (Bit.pow_pos' i)), h, Nat.testBit_two_pow]
 exact decide_eq_decide.2 eq_comm
theorem bit_acc (f : Int) (l : List Int) (i k : Nat) (hi : i < 60) (hl : Within l) (j : Nat) : bit (accB f l i k) j = true ↔ j = i ∨ ∃ m, m < k ∧ bit f m = true ∧ bit (l.getD m 0) j = true := by
 induction k with
 | zero => unfold accB; rw [bit_pow]; simp
 | succ k ih =>
   have hb := accB_bd f l i k hi hl
   have hg := within_get hl k
   unfold accB
   cases hf : bit f k
   · simp only [Bool.false_eq_true, if_false]
     rw [ih]
     constructor
     · rintro (h | ⟨m, hm, h1, h2⟩)
       · exact .inl h
       · exact .inr ⟨m, by omega, h1, h2⟩
     · rintro (h | ⟨m, hm, h1, h2⟩)
       · exact .inl h
       · by_cases e : m = k
         · rw [e, hf] at h1; exact Bool.noConfusion h1
         · exact .inr ⟨m, by omega, h1, h2⟩
   · simp only [if_true]
     rw [bit_orB _ _ hb.1 hg.1, Bool.or_eq_true, ih]
     constructor
     · rintro ((h | ⟨m, hm, h1, h2⟩) | h)
       · exact .inl h
       · exact .inr ⟨m, by omega, h1, h2⟩
       · exact .inr ⟨k, by omega, hf, h⟩
     · rintro (h | ⟨m, hm, h1, h2⟩)
       · exact .inl (.inl h)
       · by_cases e : m = k
         · rw [e] at h2; exact .inr h2
         · exact .inl (.inr ⟨m, by omega, h1, h2⟩)
def bel (L : List K) (i : Nat) : Int := (belows L (i + 1)).getD i 0
theorem belows_get (L : List K) (n i : Nat) (h : i < n) : (belows L n).getD i 0 = bel L i := by
 induction n with
 | zero => omega
 | succ n ih =>
   by_cases e : i = n
   · subst e; rfl
   · have hn : i < (belows L n).length := by rw [belows_len]; omega
     rw [← ih (by omega)]
     show (belows L n ++ _).getD i 0 = _
     simp [List.getD, List.getElem?_append_left hn]
theorem bel_acc (L : List K) (i : Nat) : bel L i = accB (at' L i).frm (belows L i) i i := by
 unfold bel
 show (belows L i ++ [_]).getD i 0 = _
 have := belows_len L i
 simp [List.getD, this]
theorem bel_bd (L : List K) (i : Nat) (hi : i < 60) : 0 ≤ bel L i ∧ bel L i < 1152921504606846976 := by
 rw [bel_acc]; exact accB_bd _ _ _ _ hi (belows_in L i (by omega))
theorem bit_bel (L : List K) (i : Nat) (hi : i < 60) (j : Nat) : bit (bel L i) j = true ↔ j = i ∨ ∃ m, m < i ∧ bit (at' L i).frm m = true ∧ bit (bel L m) j = true := by
 rw [bel_acc, bit_acc _ _ _ _ hi (belows_in L i (by omega))]
 constructor
 · rintro (h | ⟨m, hm, h1, h2⟩)
   · exact .inl h
   · exact .inr ⟨m, hm, h1, by rwa [belows_get L i m hm] at h2⟩
 · rintro (h | ⟨m, hm, h1, h2⟩)
   · exact .inl h
   · exact .inr ⟨m, hm, h1, by rwa [belows_get L i m hm]⟩
inductive Reach (L : List K) : Nat → Nat → Prop
 | self (i : Nat) : Reach L i i
 | step {i m j : Nat} : bit (at' L i).frm m = true → Reach L m j → Reach L i j
theorem Reach.trans {L : List K} {i m j : Nat} (h : Reach L i m) (h2 : Reach L m j) : Reach L i j := by
 induction h with
 | self => exact h2
 | step hb _ ih => exact .step hb (ih h2)
theorem thread_lt {L : List K} (hl : Lc.laceB L = true) {i m : Nat} (hi : i < L.length) (hb : bit (at' L i).frm m = true) : m < i := by
 have hc := Lc.lace_upTo hl i hi
 have hf := Lc.ok_frm (Lc.can_ok hc)
 unfold Lc.canB at hc
 simp only [Bool.and_eq_true, decide_eq_true_eq] at hc
 have hd : (at' L i).frm / 2 ^ (L.take i).length = 0 := hc.2.1
 have hlen : (L.take i).length = i := by simp; omega
 rw [hlen] at hd
 apply Classical.byContradiction
 intro h
 rw [Lc.bit_hi _ i hf.1 hd m (by omega)] at hb
 exact Bool.noConfusion hb
theorem bel_reach {L : List K} (hl : Lc.laceB L = true) (i : Nat) (hi : i < L.length) (j : Nat) : bit (bel L i) j = true ↔ Reach L i j := by
 have h60 := ((Lc.lace_iff L).1 hl).1
 induction i using Nat.strongRecOn generalizing j with
 | _ i ih =>
   rw [bit_bel L i (by omega)]
   constructor
   · rintro (rfl | ⟨m, hm, h1, h2⟩)
     · exact .self _
     · exact .step h1 ((ih m hm (by omega) j).1 h2)
   · intro h
     cases h with
     | self => exact .inl rfl
     | step hb h2 =>
       have hm := thread_lt hl hi hb
       exact .inr ⟨_, hm, hb, (ih _ hm (by omega) j).2 h2⟩
theorem reach_le {L : List K} (hl : Lc.laceB L = true) {i j : Nat} (hi : i < L.length) (h : Reach L i j) : j ≤ i := by
 induction h with
 | self => exact Nat.le_refl _
 | step hb _ ih =>
   have hm := thread_lt hl hi hb
   have := ih (by omega)
   omega
theorem andNot_sub (a s : Int) (h0 : 0 ≤ a) (h1 : a < 9223372036854775808) (h2 : 0 ≤ s) (h3 : s < 9223372036854775808) : (bits .andNot .i64 a s == 0) = true ↔ ∀ i, bit a i = true → bit s i = true := by
 obtain ⟨A, rfl⟩ := Int.eq_ofNat_of_zero_le h0
 obtain ⟨S, rfl⟩ := Int.eq_ofNat_of_zero_le h2
 have hA : (BitVec.ofInt 64 (A : Int)).toNat = A := ofInt_u64 A (by omega)
 have hS : (BitVec.ofInt 64 (S : Int)).toNat = S := ofInt_u64 S (by omega)
 have e : bits .andNot .i64 (A : Int) (S : Int) = IntKind.i64.wrap ((BitVec.ofInt 64 (A : Int) &&& ~~~ BitVec.ofInt 64 (S : Int)).toNat : Int) := rfl
 have hz : (bits .andNot .i64 (A : Int) (S : Int) == 0) = true ↔ (BitVec.ofInt 64 (A : Int) &&& ~~~ BitVec.ofInt 64 (S : Int)) = 0#64 := by
   rw [e, beq_iff_eq]
   constructor
   · intro h
     have hlt : (BitVec.ofInt 64 (A : Int) &&& ~~~ BitVec.ofInt 64 (S : Int)).toNat < 18446744073709551616 := BitVec.isLt _
     have hw : ∀ x : Nat, x < 18446744073709551616 → IntKind.i64.wrap (x : Int) = 0 → x = 0 := by
       intro x hx hh
       simp only [IntKind.wrap, IntKind.bits, IntKind.signed] at hh
       simp at hh
       omega
     exact BitVec.eq_of_toNat_eq ((hw _ hlt h).trans rfl)
   · intro h; rw [h]; rfl
 rw [hz]
 have ba : ∀ i, (BitVec.ofInt 64 (A : Int)).getLsbD i = A.testBit i := fun i => by rw [BitVec.getLsbD, hA]
 have bs : ∀ i, (BitVec.ofInt 64 (S : Int)).getLsbD i = S.testBit i := fun i => by rw [BitVec.getLsbD, hS]
 have ta : ∀ i, bit (A : Int) i = A.testBit i := fun i => by rw [Bit.bit_testBit _ h0, Int.toNat_natCast]
 have ts : ∀ i, bit (S : Int) i = S.testBit i := fun i => by rw [Bit.bit_testBit _ h2, Int.toNat_natCast]
 constructor
 · intro h i hi
   rw [ta] at hi
   have h64 : i < 64 := by
     apply Classical.byContradiction
     intro hn
     have : A.testBit i = false := Nat.testBit_lt_two_pow (Nat.lt_of_lt_of_le (show A < 2 ^ 64 by omega) (Nat.pow_le_pow_right (by decide) (by omega)))
     rw [this] at hi; exact Bool.noConfusion hi
   have hb := congrArg (fun v => v.getLsbD i) h
   simp only [BitVec.getLsbD_and, BitVec.getLsbD_not, ba, bs, hi, h64] at hb
   rw [ts]
   simpa using hb
 · intro h
   apply BitVec.eq_of_getLsbD_eq
   intro i hi
   simp only [BitVec.getLsbD_and, BitVec.getLsbD_not, ba, bs]
   cases hA' : A.testBit i
   · simp
   · have := h i (by rw [ta]; exact hA')
     rw [ts] at this
     rw [this]; simp
theorem closed_iff (L : List K) (s : Int) (n : Nat) (hn : n ≤ 60) (h0 : 0 ≤ s) (h1 : s < 1152921504606846976) : closedTo (belows L n) s n = true ↔ ∀ i, i < n → bit s i = true → ∀ j, bit (bel L i) j = true → bit s j = true := by
 unfold closedTo
 rw [List.all_eq_true]
 constructor
 · intro h i hi hb
   have := h i (by simpa using hi)
   rw [hb, belows_get L n i hi] at this
   have hbd := bel_bd L i (by omega)
   exact (andNot_sub _ _ hbd.1 (by omega) h0 (by omega)).1 (by simpa using this)
 · intro h i hi
   have hi' : i < n := by simpa using hi
   cases hb : bit s i
   · rfl
   · rw [belows_get L n i hi']
     have hbd := bel_bd L i (by omega)
     have := (andNot_sub _ _ hbd.1 (by omega) h0 (by omega)).2 (h i hi' hb)
     simpa using this
theorem closed_threads {L : List K} (hl : Lc.laceB L = true) (s : Int) (h0 : 0 ≤ s) (h1 : s < 1152921504606846976) : closedTo (belows L L.length) s L.length = true ↔ ∀ i, i < L.length → bit s i = true → ∀ m, bit (at' L i).frm m = true → bit s m = true := by
 have h60 := ((Lc.lace_iff L).1 hl).1
 rw [closed_iff L s L.length h60 h0 h1]
 constructor
 · intro h i hi hb m hm
   exact h i hi hb m ((bel_reach hl i hi m).2 (.step hm (.self _)))
 · intro h i hi hb j hj
   have r := (bel_reach hl i hi j).1 hj
   clear hj
   induction r with
   | self => exact hb
   | step hm _ ih => exact ih (Nat.lt_trans (thread_lt hl hi hm) hi) (h _ hi hb _ hm)
end Sg
namespace Db
open Kn (K okK)
open Bit (bit withB)
open Lc (at' RdK)
def pairB (L : List K) (l : List Int) (a b : Nat) : Bool := decide ((at' L a).hand = (at' L b).hand) && !bit (l.getD a 0) b
def dblB (L : List K) (l : List Int) (i j : Nat) : Bool := if j < i then pairB L l i j else if i < j then pairB L l j i else false
def doneB (a b i j : Nat) : Bool := (decide (i < a) && decide (j < a)) || ((decide (i = a) && decide (j < b)) || (decide (j = a) && decide (i < b)))
structure RowI (w : World) (g n : Nat) (D : Nat → Int) : Prop where
 lt : g < w.heap.size
 rd : ∀ i, i < n → w.cell? ⟨g, i, none⟩ = some (.int .i64 (D i))
 fr : ∀ i, i < n → w.frozen? ⟨g, i, none⟩ = false
theorem RowI.put {w : World} {g n : Nat} {D : Nat → Int} (h : RowI w g n D) (m : Nat) (hm : m < n) (x : Int) : RowI (w.setCell ⟨g, m, none⟩ (.int .i64 x)) g n (fun i => if i = m then x else D i) where
 lt := by simpa using h.lt
 rd := fun i hi => by
   by_cases e : i = m
   · subst e; simpa using World.cell?_setCell_same _ _ _ (h.rd i hi)
   · rw [if_neg e]; exact (World.cell?_setCell_other _ _ _ _ (by intro q; injection q with _ q; exact e q.symm)).trans (h.rd i hi)
 fr := fun i hi => by simpa using h.fr i hi
theorem RowI.drew {w : World} {g n : Nat} {D : Nat → Int} (h : RowI w g n D) : RowI w.drew g n D := ⟨h.lt, h.rd, h.fr⟩
theorem RowI.drewN {w : World} {g n : Nat} {D : Nat → Int} (h : RowI w g n D) (k : Nat) : RowI (w.drewN k) g n D := ⟨h.lt, h.rd, h.fr⟩
def Dbl (L : List K) (l : List Int) (a b : Nat) (D : Nat → Int) : Prop := ∀ i, i < L.length → (0 ≤ D i ∧ D i < 1152921504606846976) ∧ ∀ j, bit (D i) j = (dblB L l i j && doneB a b i j)
theorem dbl_zero (L : List K) (l : List Int) : Dbl L l 0 0 (fun _ => 0) := fun i _ => ⟨⟨Int.le_refl 0, show (0 : Int) < 1152921504606846976 by decide⟩, fun j => by show bit 0 j = _; rw [Lc.bit_zero]; simp [doneB]⟩
theorem dbl_next (L : List K) (l : List Int) (a : Nat) (D : Nat → Int) (h : Dbl L l a a D) : Dbl L l (a + 1) 0 D := by
 intro i hi
 refine ⟨(h i hi).1, fun j => ?_⟩
 rw [(h i hi).2 j]
 by_cases he : i = j
 · subst he; simp [dblB]
 · have : doneB a a i j = doneB (a + 1) 0 i j := by
     unfold doneB
     rw [Bool.eq_iff_iff]; simp; omega
   rw [this]
theorem dbl_skip (L : List K) (l : List Int) (a b : Nat) (D : Nat → Int) (hab : b < a) (hp : pairB L l a b = false) (h : Dbl L l a b D) : Dbl L l a (b + 1) D := by
 intro i hi
 refine ⟨(h i hi).1, fun j => ?_⟩
 rw [(h i hi).2 j]
 by_cases hc : (i = a ∧ j = b) ∨ (i = b ∧ j = a)
 · have : dblB L l i j = false := by
     unfold dblB
     rcases hc with ⟨rfl, rfl⟩ | ⟨rfl, rfl⟩
     · rw [if_pos hab]; exact hp
     · rw [if_neg (by omega), if_pos hab]; exact hp
   rw [this]; rfl
 · have : doneB a b i j = doneB a (b + 1) i j := by
     unfold doneB
     rw [Bool.eq_iff_iff]; simp; omega
   rw [this]
def putD (D : Nat → Int) (a b i : Nat) : Int := if i = b then withB (if b = a then withB (D a) b else D b) a else if i = a then withB (D a) b else D i
theorem dbl_put (L : List K) (l : List Int) (a b : Nat) (D : Nat → Int) (hab : b < a) (ha : a < 60) (hp : pairB L l a b = true) (h : Dbl L l a b D) : Dbl L l a (b + 1) (putD D a b) := by
 intro i hi
 unfold putD
 by_cases h1 : i = b
 · subst h1
   have hd := h i hi
   simp only [if_true]
   rw [if_neg (show ¬ i = a by omega)]
   refine ⟨Bit.withB_bd _ hd.1.1 hd.1.2 a ha, fun j => ?_⟩
   rw [Bit.bit_withB _ hd.1.1, hd.2 j]
   by_cases hj : j = a
   · subst hj
     have e1 : dblB L l i j = true := by unfold dblB; rw [if_neg (by omega), if_pos hab]; exact hp
     have e2 : doneB j (i + 1) i j = true := by unfold doneB; simp
     rw [e1, e2]; simp
   · have : doneB a i i j = doneB a (i + 1) i j := by
       unfold doneB; rw [Bool.eq_iff_iff]; simp; omega
     rw [this]; simp [hj]
 · by_cases h2 : i = a
   · subst h2
     have hd := h i hi
     rw [if_neg h1]
     simp only [if_true]
     refine ⟨Bit.withB_bd _ hd.1.1 hd.1.2 b (by omega), fun j => ?_⟩
     rw [Bit.bit_withB _ hd.1.1, hd.2 j]
     by_cases hj : j = b
     · subst hj
       have e1 : dblB L l i j = true := by unfold dblB; rw [if_pos hab]; exact hp
       have e2 : doneB i (j + 1) i j = true := by unfold doneB; simp
       rw [e1, e2]; simp
     · have : doneB i b i j = doneB i (b + 1) i j := by
         unfold doneB; rw [Bool.eq_iff_iff]; simp; omega
       rw [this]; simp [hj]
   · have hd := h i hi
     rw [if_neg h1, if_neg h2]
     refine ⟨hd.1, fun j => ?_⟩
     rw [hd.2 j]
     have : doneB a b i j = doneB a (b + 1) i j := by
       unfold doneB; rw [Bool.eq_iff_iff]; simp; omega
     rw [this]
theorem rowI_made (w : World) (t : TypeId) (n : Nat) : RowI (w.alloc (.cells (madeCells #[.int .i64 0] n) t)) w.heap.size n (fun _ => 0) where
 lt := by simp
 rd := fun i hi => by
   rw [World.cell?_alloc_new]
   have : i < (madeCells #[Value.int .i64 0] n).size := by rw [size_madeCells]; exact hi
   rw [Array.getElem?_eq_getElem this]
   simp [madeCells, Nat.mod_one]
 fr := fun i hi => by simp
theorem has_call (f : Int) (i : Nat) (b : Bool) (h0 : 0 ≤ f) (h1 : f < 1152921504606846976) (hi : i ≤ 60) (hb : bit f i = b) (W : World) : Calls Tryz.prog 48 #[.int .i64 f, .int .i64 (i : Int)] W fun e w' => e = .returned (.bool b) ∧ w' = W := by
 refine (Base.l1Has f (i : Int) W h0 h1 (by omega) (by omega)).mono ?_
 rintro e w' ⟨rfl, rfl⟩
 exact ⟨by rw [Int.toNat_natCast, hb], rfl⟩
def DblPost (L : List K) (l : List Int) (w : World) (e : Ending) (w' : World) : Prop := ∃ D, e = .returned (.slice (some ⟨w.heap.size, 0, none⟩) L.length L.length) ∧ RowI w' w.heap.size L.length D ∧ Dbl L l L.length 0 D ∧ Below w.heap.size w w'
theorem below_drewN {b : Nat} {a w : World} (h : Below b a w) (n : Nat) : Below b a (w.drewN n) := ⟨h.os, h.tape, h.output, h.size, h.block⟩
set_option maxHeartbeats 6400000 in
theorem l5All (ao : Option Addr) (cap : Nat) (L : List K) (bo : Option Addr) (bc : Nat) (l : List Int) (w : World) (hL : L.length ≤ 60) (hll : l.length = L.length) (hin : Sg.Within l) (hr : RdK w ao L) (hrd : Lst.Rd w bo l) (hbo : ∀ g, bo = some ⟨g, 0, none⟩ → g < w.heap.size) :
   Calls Tryz.prog 75 #[.slice ao L.length cap, .slice bo l.length bc] w (DblPost L l w) := by
 have hmk : ∀ W : World, (Instr.makeSlice 25 (.int .i64 (L.length : Int)) (.int .i64 (L.length : Int))).run Tryz.prog W = .ok (.slice (some ⟨W.heap.size, 0, none⟩) L.length L.length) (W.alloc (.cells (madeCells #[.int .i64 0] L.length) 2)) :=
   fun W => run_make_row' (P := Tryz.prog) 25 2 (.int .i64 0) 8 Tryz.underlying25 Memb.info2 rfl .i64 .i64 L.length (by omega) (by omega) W
 have HP : Hid (RowI (w.alloc (.cells (madeCells #[.int .i64 0] L.length) 2)) w.heap.size L.length (fun _ => 0) ∧ Below w.heap.size w (w.alloc (.cells (madeCells #[.int .i64 0] L.length) 2))) := ⟨rowI_made _ _ _, (Below.refl _ _).alloc (Nat.le_refl _) _⟩
 generalize madeCells #[Value.int .i64 0] L.length = mc at hmk HP
 have HLL : Hid (l.length = L.length) := hll
 have hl60 : l.length ≤ 60 := by omega
 clear hll
 go_enter Tryz.func75, Tryz.ntmps75
 go_wp2
 clear hmk
 go_loopw [6] (fun i wr => ∃ (a : Nat) (D : Nat → Int), a ≤ L.length ∧ i = .int .i64 a ∧ Hid (RowI wr w.heap.size L.length D) ∧ Hid (Dbl L l a 0 D) ∧ Hid (Below w.heap.size w wr)) (fun i _ => L.length - (intOf i).toNat)
 case atStart => exact ⟨0, _, by omega, rfl, HP.out.1, dbl_zero L l, HP.out.2⟩
 case round =>
   obtain ⟨a, D0, ha, rfl, HR, HD, HB⟩ := hrel
   by_cases hlt : a < L.length
   · have hal : a < l.length := by rw [HLL.out]; exact hlt
     have hali : (a : Int) < (l.length : Int) := by omega
     go_wp2
     go_loopw [7] (fun i wr => ∃ (b : Nat) (D : Nat → Int), b ≤ a ∧ i = .int .i64 b ∧ Hid (RowI wr w.heap.size L.length D) ∧ Hid (Dbl L l a b D) ∧ Hid (Below w.heap.size w wr)) (fun i _ => a - (intOf i).toNat)
     case atStart => exact ⟨0, D0, by omega, rfl, HR, HD, HB⟩
     case round =>
       obtain ⟨b, D, hb, rfl, HR, HD, HB⟩ := hrel
       by_cases hba : b < a
       · obtain ⟨g, off, hao, hg, hca⟩ := (hr.below HB.out).at a hlt
         obtain ⟨g', off', hao', _, hcb⟩ := (hr.below HB.out).at b (by omega)
         subst hao
         injection hao' with hao'
         injection hao' with q1 q2
         subst q1 q2
         obtain ⟨a0, _, _, _⟩ := hca
         obtain ⟨b0, _, _, _⟩ := hcb
         have hya := Sg.within_get hin a
         rcases hrd with hrd | ⟨bb, rfl, hcell⟩
         · rw [hrd] at hal; simp at hal
         have cy := (HB.out.cell (p := ⟨bb, a, none⟩) (hbo bb rfl)).trans (hcell a hal)
         have HPB : Hid (pairB L l a b = (decide ((at' L a).hand = (at' L b).hand) && !bit (l.getD a 0) b)) := rfl
         clear hcell hbo
         generalize l.getD a 0 = y at cy hya HPB
         by_cases hq : (at' L a).hand = (at' L b).hand
         · have hq1 : ((at' L a).hand == (at' L b).hand) = true := by simpa using hq
           cases hbit : bit y b
           · have hp : pairB L l a b = true := by rw [HPB.out, hbit]; simp [hq]
             have hcall := has_call y b false hya.1 hya.2 (by omega) hbit
             have HD2 : Hid (Dbl L l a (b + 1) (putD D a b)) := dbl_put L l a b D hba (by omega) hp HD.out
             have hda := (HD.out a hlt).1
             have hdb := (HD.out b (by omega)).1
             clear hbit HPB hq hp
             go_wp2_with fail
             go_quiet (first | (go_at_call 48; exact (hcall _).mono fun _ _ h => ⟨h.1, _, h.2⟩))
             go_wp2_with fail
             have R1 := HR.out.drewN nq
             have HB1 : Hid (Below w.heap.size w (wr.drewN nq)) := below_drewN HB.out nq
             clear a0 b0 cy HR HB
             generalize wr.drewN nq = V at R1 HB1 ⊢
             have e1 := R1.rd a hlt
             have f1 := R1.fr a hlt
             have HO1 : Hid (bits .or .i64 (D a) (2 ^ b) = withB (D a) b) := Base.shl_or _ b hda.1 hda.2 (by omega)
             have HR2 : Hid (RowI (V.setCell ⟨w.heap.size, a, none⟩ (.int .i64 (withB (D a) b))) w.heap.size L.length (fun i => if i = a then withB (D a) b else D i)) := R1.put a hlt _
             have HB2 : Hid (Below w.heap.size w (V.setCell ⟨w.heap.size, a, none⟩ (.int .i64 (withB (D a) b)))) := HB1.out.setCell (p := ⟨w.heap.size, a, none⟩) (Nat.le_refl _) _
             clear R1 HB1
             go_region_with (go_at_call 49; refine (Base.l1Bit _ _ (by omega) (by omega)).mono ?_; rintro e w' ⟨rfl, rfl⟩; rw [Int.toNat_natCast])
             all_goals
               rw [HO1.out]
               go_wp2_with fail
               have R3 := HR2.out.drew
               have HB3 : Hid (Below w.heap.size w (V.setCell ⟨w.heap.size, a, none⟩ (.int .i64 (withB (D a) b))).drew) := HB2.out.drew
               clear e1 f1 HR2 HB2
               generalize (V.setCell ⟨w.heap.size, a, none⟩ (.int .i64 (withB (D a) b))).drew = V3 at R3 HB3 ⊢
               have e3 := R3.rd b (by omega)
               have f3 := R3.fr b (by omega)
               have hne : ¬ b = a := by omega
               rw [if_neg hne] at e3
               have HO3 : Hid (bits .or .i64 (D b) (2 ^ a) = withB (D b) a) := Base.shl_or _ a hdb.1 hdb.2 (by omega)
               have HR4 : Hid (RowI (V3.setCell ⟨w.heap.size, b, none⟩ (.int .i64 (withB (D b) a))) w.heap.size L.length (putD D a b)) := by
                 have := R3.put b (by omega) (withB (D b) a)
                 have e : (fun i => if i = b then withB (D b) a else if i = a then withB (D a) b else D i) = putD D a b := by
                   funext i; unfold putD; rw [if_neg hne]
                 rw [← e]; exact this
               have HB4 : Hid (Below w.heap.size w (V3.setCell ⟨w.heap.size, b, none⟩ (.int .i64 (withB (D b) a)))) := HB3.out.setCell (p := ⟨w.heap.size, b, none⟩) (Nat.le_refl _) _
               clear R3 HB3 hne
               go_region_with (go_at_call 49; refine (Base.l1Bit _ _ (by omega) (by omega)).mono ?_; rintro e w' ⟨rfl, rfl⟩; rw [Int.toNat_natCast])
               all_goals
                 rw [HO3.out]
                 go_wp2
                 go_roundw
                 case rel => exact ⟨b + 1, putD D a b, by omega, by go_num, HR4.out.drew, HD2, HB4.out.drew⟩
                 case measure => simp [intOf]; omega
           · have hp : pairB L l a b = false := by rw [HPB.out, hbit]; simp
             have hcall := has_call y b true hya.1 hya.2 (by omega) hbit
             have HD2 : Hid (Dbl L l a (b + 1) D) := dbl_skip L l a b D hba hp HD.out
             clear hbit HPB hq hp
             go_wp2_with fail
             go_quiet (first | (go_at_call 48; exact (hcall _).mono fun _ _ h => ⟨h.1, _, h.2⟩))
             go_wp2
             go_roundw
             case rel => exact ⟨b + 1, D, by omega, by go_num, HR.out.drewN nq, HD2, below_drewN HB.out nq⟩
             case measure => simp [intOf]; omega
         · have hq1 : ((at' L a).hand == (at' L b).hand) = false := by simpa using hq
           have hp : pairB L l a b = false := by rw [HPB.out]; simp [hq]
           have HD2 : Hid (Dbl L l a (b + 1) D) := dbl_skip L l a b D hba hp HD.out
           clear HPB hq hp
           go_wp2_with fail
           go_quiet (fail)
           go_wp2
           go_roundw
           case rel => exact ⟨b + 1, D, by omega, by go_num, HR.out.drewN nq, HD2, below_drewN HB.out nq⟩
           case measure => simp [intOf]; omega
       · obtain rfl : b = a := by omega
         have HD2 : Hid (Dbl L l (b + 1) 0 D) := dbl_next L l b D HD.out
         go_wp2
         go_roundw
         case rel => exact ⟨b + 1, D, by omega, by go_num, HR, HD2, HB⟩
         case measure => simp [intOf]; omega
   · obtain rfl : a = L.length := by omega
     go_wp2
     go_ret
     exact ⟨D0, rfl, HR.out, HD.out, HB.out⟩
end Db
end Go.Proofs.YtflhaiakhfmmmaaGreat
