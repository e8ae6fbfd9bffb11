/-
 A region that draws its order, walked once, where its callees may make memory: every operation yields one value in all worlds that the first one is below of. No program in it.
-/
import Derived.Test.YtfjmenhofllchaaGreatDoorQag1
import Derived.Below
namespace Go.Proofs.YtfjmenhofllchaaGreatDoor
open Go.RowKit
set_option maxRecDepth 100000
namespace Lc
open Kn (K okK)
open Bit (bit withB)
set_option maxHeartbeats 400000 in
theorem atRound (g off cap : Nat) (L : List K) (s r : Int) (w : World) (hL : L.length ≤ 60) (hs : Base.okB s = true) (hr : RdK w (some ⟨g, off, none⟩) L) :
   Calls Tryz.prog 135 #[.slice (some ⟨g, off, none⟩) L.length cap, .int .i64 s, .int .i64 r] w fun e w' => e = .returned (.int .i64 (roundS L s r)) ∧ Below w.heap.size w w' := by
 have B0 : Below w.heap.size w (w.alloc (.cells #[.int .i64 r] 2)) := (Below.refl _ _).alloc (Nat.le_refl _) _
 go_enter Tryz.func135, Tryz.ntmps135
 go_wp2_with fail
 refine (amongRound g off cap L s w.heap.size r _ hL hs (hr.below B0) (by simp) (by simp)).mono ?_
 rintro e w1 ⟨rfl, hb1⟩
 have B1 := B0.trans (hb1.mono (by simp))
 clear hb1 B0
 go_wp2
 go_ret
 exact ⟨rfl, B1⟩
theorem round_bd (L : List K) (s r : Int) (hL : L.length ≤ 60) : 0 ≤ roundS L s r ∧ roundS L s r < 1152921504606846976 ∧ roundS L s r / 2 ^ L.length = 0 := by
 have hb := among_bd (fun k => decide (k.round = r)) L s L.length hL
 refine ⟨hb.1, hb.2, div_of_bits _ _ hb.1 fun i hi => ?_⟩
 unfold roundS
 rw [bit_among _ _ _ _ hL]
 simp; omega
theorem take_snocI (l : List Int) (j : Nat) (h : j < l.length) : l.take (j + 1) = l.take j ++ [l.getD j 0] := by
 rw [List.take_succ_eq_append_getElem h]; simp [List.getD, List.getElem?_eq_getElem h]
theorem mem_in (L : List K) (s : Int) (h0 : 0 ≤ s) (hd : s / 2 ^ L.length = 0) : ∀ i ∈ Bit.memTo s 60, 0 ≤ i ∧ i < (L.length : Int) := by
 intro i hi
 obtain ⟨j, _, rfl, hj⟩ := (Bit.mem_memTo s 60 i).1 hi
 refine ⟨by omega, ?_⟩
 apply Classical.byContradiction
 intro hc
 rw [bit_hi s _ h0 hd j (by omega)] at hj
 exact Bool.noConfusion hj
set_option maxHeartbeats 1600000 in
theorem hands (g off cap : Nat) (L : List K) (s : Int) (w : World) (hL : L.length ≤ 60) (h0 : 0 ≤ s) (h1 : s < 1152921504606846976) (hd : s / 2 ^ L.length = 0) (hh : HandsOk L) (hr : RdK w (some ⟨g, off, none⟩) L) :
   Calls Tryz.prog 134 #[.slice (some ⟨g, off, none⟩) L.length cap, .int .i64 s] w fun e w' => e = .returned (.int .i64 (handsN L s)) ∧ Below w.heap.size w w' := by
 have hok : Base.okB s = true := (Base.okB_iff s).2 ⟨h0, h1⟩
 have hmem : Memb.memI s = Bit.memTo s 60 := by unfold Memb.memI; rw [hok]; rfl
 have hin := mem_in L s h0 hd
 have HT : Hid (((Bit.memTo (found L (Bit.memTo s 60)) 60).length : Int) = handsN L s) := found_hands L s hL hh h0 hd
 go_enter Tryz.func134, Tryz.ntmps134
 go_wp2_with fail
 refine (Memb.picked s _).mono ?_
 rintro e w1 ⟨ao, ca, rfl, hown, hb1⟩
 rw [hmem] at hown ⊢
 have hr1 := hr.below hb1
 have hrd := Lst.own_rd hown
 have hle : (Bit.memTo s 60).length ≤ 60 := Bit.memTo_le s 60
 have HI : Hid (∀ i ∈ Bit.memTo s 60, 0 ≤ i ∧ i < (L.length : Int)) := hin
 clear hown hmem hok hin h0 h1 hd
 generalize Bit.memTo s 60 = l at HT hrd hle HI ⊢
 go_wp2
 go_loop [5, 12] (fun o i => ∃ j : Nat, j ≤ l.length ∧ i = .int .i64 j ∧ o = .int .i64 (found L (l.take j))) (fun _ i => l.length - (intOf i).toNat)
 case atStart => exact ⟨0, by omega, rfl, rfl⟩
 case round =>
   obtain ⟨j, hj, rfl, rfl⟩ := hrel
   have HF : Hid (0 ≤ found L (l.take j) ∧ found L (l.take j) < 16) := found_bd L _ hh (fun i hi => HI.out i (List.mem_of_mem_take hi))
   by_cases hlt : j < l.length
   · rcases hrd with hrd | ⟨b, rfl, hcell⟩
     · rw [hrd] at hlt; simp at hlt
     have cj := hcell j hlt
     have hx := HI.out (l.getD j 0) (by simp [List.getD, List.getElem?_eq_getElem hlt])
     have HS : Hid (found L (l.take (j + 1)) = withB (found L (l.take j)) (at' L (l.getD j 0).toNat).hand.toNat) := by
       show _ = _
       rw [take_snocI l j hlt, found_snoc]
     generalize l.getD j 0 = x at cj hx HS
     obtain ⟨m, rfl⟩ := Int.eq_ofNat_of_zero_le hx.1
     have hm : m < L.length := by omega
     obtain ⟨_, c0, _, _, _⟩ := hr1.on m hm
     have hk := hh _ (at_mem L m hm)
     have HW : Hid (Base.withI (found L (l.take j)) (at' L m).hand = found L (l.take (j + 1))) := by
       show _ = _
       rw [HS.out, Int.toNat_natCast]
       unfold Base.withI
       rw [(Base.okB_iff _).2 ⟨HF.out.1, by have := HF.out.2; omega⟩, (Base.inB_iff _).2 ⟨hk.1, by omega⟩]; simp
     clear hcell HS hk HF
     go_wp2_with (go_at_call 87; refine (Base.withM _ _ _).mono ?_; rintro e w' ⟨rfl, rfl⟩; rw [HW.out])
     go_round
     case rel => exact ⟨j + 1, by omega, by go_num, rfl⟩
     case measure => simp [intOf]; omega
   · obtain rfl : j = l.length := by omega
     have e : l.take l.length = l := List.take_length
     rw [e] at HF ⊢
     go_wp2_with fail
     refine (Memb.size _ _ HF.out.1 (by have := HF.out.2; omega)).mono ?_
     rintro e w2 ⟨rfl, rfl⟩
     rw [HT.out]
     go_wp2
     go_ret
     exact ⟨rfl, hb1⟩
set_option maxHeartbeats 1600000 in
theorem bears (g off cap : Nat) (L : List K) (k : K) (w : World) (hL : L.length ≤ 60) (hk : okK k = true) (hh : HandsOk L) (hr : RdK w (some ⟨g, off, none⟩) L) :
   Calls Tryz.prog 133 #[.slice (some ⟨g, off, none⟩) L.length cap, .agg #[.int .i64 k.hand, .int .i64 k.round, .int .i64 k.frm, .string k.word]] w fun e w' => e = .returned (.bool (bearsB L k)) ∧ Below w.heap.size w w' := by
 have hf := ok_frm hk
 have hrd := ok_round hk
 have HOK : Hid (Base.okB k.frm = true) := (Base.okB_iff _).2 hf
 have HB : Hid (bearsB L k = (decide (k.round = 0) || (decide (amongI (fun x => decide (x.round < k.round)) L k.frm L.length = k.frm) && decide (3 ≤ handsN L (roundS L k.frm (k.round - 1)))))) := rfl
 have P0 : Hid (Below w.heap.size w (w.alloc (.cells #[.int .i64 k.hand, .int .i64 k.round, .int .i64 k.frm, .string k.word] 92)) ∧ CellsK (w.alloc (.cells #[.int .i64 k.hand, .int .i64 k.round, .int .i64 k.frm, .string k.word] 92)) w.heap.size 0 k ∧ w.heap.size < (w.alloc (.cells #[.int .i64 k.hand, .int .i64 k.round, .int .i64 k.frm, .string k.word] 92)).heap.size) :=
   ⟨(Below.refl _ _).alloc (Nat.le_refl _) _, ⟨by simp, by simp, by simp, by simp⟩, by simp⟩
 clear hk
 by_cases hz : k.round = 0
 · have HT : Hid (bearsB L k = true) := by show _ = _; rw [HB.out]; simp [hz]
   have hz' : (k.round == 0) = true := by simpa using hz
   clear hz
   go_enter Tryz.func133, Tryz.ntmps133
   go_wp2
   go_ret
   exact ⟨by rw [HT.out]; rfl, P0.out.1⟩
 · have HT : Hid (bearsB L k = (decide (amongI (fun x => decide (x.round < k.round)) L k.frm L.length = k.frm) && decide (3 ≤ handsN L (roundS L k.frm (k.round - 1))))) := by show _ = _; rw [HB.out]; simp [hz]
   have hz' : (k.round == 0) = false := by simpa using hz
   clear hz HB
   go_enter Tryz.func133, Tryz.ntmps133
   go_wp2_with fail
   generalize w.alloc (.cells #[.int .i64 k.hand, .int .i64 k.round, .int .i64 k.frm, .string k.word] 92) = w0 at P0 ⊢
   obtain ⟨B0, C0, S0⟩ := P0
   generalize hb : w.heap.size = b at *
   have hr0 : RdK w0 (some ⟨g, off, none⟩) L := hr.below (by rw [hb]; exact B0)
   refine (amongLess g off cap L k.frm b k _ hL HOK.out hr0 S0 C0).mono ?_
   rintro e w1 ⟨rfl, hb1⟩
   have C1 := C0.below hb1 S0
   have S1 : b < w1.heap.size := Nat.lt_of_lt_of_le S0 hb1.size
   have B1 := B0.trans (hb1.mono (Nat.le_of_lt S0))
   have hr1 := hr0.below hb1
   clear hb1 B0 S0 C0 hr0
   obtain ⟨_, c1, c2, _⟩ := C1
   rw [Nat.zero_add] at c1 c2
   by_cases hq : amongI (fun x => decide (x.round < k.round)) L k.frm L.length = k.frm
   · have HT2 : Hid (bearsB L k = decide (3 ≤ handsN L (roundS L k.frm (k.round - 1)))) := by show _ = _; rw [HT.out]; simp [hq]
     rw [hq]
     clear hq HT
     have hrb := round_bd L k.frm (k.round - 1) hL
     go_wp2_with fail
     refine (atRound g off cap L k.frm (k.round - 1) _ hL HOK.out hr1).mono ?_
     rintro e w2 ⟨rfl, hb2⟩
     have hr2 := hr1.below hb2
     have B2 := B1.trans (hb2.mono (Nat.le_of_lt S1))
     have S2 : b < w2.heap.size := Nat.lt_of_lt_of_le S1 hb2.size
     clear hb2 B1 S1 hr1 c1 c2
     go_wp2_with fail
     refine (hands g off cap L _ _ hL hrb.1 hrb.2.1 hrb.2.2 hh hr2).mono ?_
     rintro e w3 ⟨rfl, hb3⟩
     have B3 := B2.trans (hb3.mono (Nat.le_of_lt S2))
     clear hb3 B2 S2 hr2
     go_wp2
     go_ret
     exact ⟨by rw [HT2.out]; rfl, by first | exact B3 | (rw [hb]; exact B3)⟩
   · have HT2 : Hid (bearsB L k = false) := by show _ = _; rw [HT.out]; simp [hq]
     have hq' : (amongI (fun x => decide (x.round < k.round)) L k.frm L.length == k.frm) = false := by simpa using hq
     clear hq HT
     go_wp2
     go_ret
     exact ⟨by rw [HT2.out]; rfl, by first | exact B1 | (rw [hb]; exact B1)⟩
def takesB (L : List K) (k : K) : Bool := decide (L.length < 60) && canB L k
set_option maxHeartbeats 1600000 in
theorem takes (g off cap : Nat) (L : List K) (k : K) (w : World) (hL : L.length ≤ 60) (hw : k.word.size ≤ 1099511627776) (hh : HandsOk L) (hr : RdK w (some ⟨g, off, none⟩) L) :
   Calls Tryz.prog 96 #[.slice (some ⟨g, off, none⟩) L.length cap, .agg #[.int .i64 k.hand, .int .i64 k.round, .int .i64 k.frm, .string k.word]] w fun e w' => e = .returned (.bool (takesB L k)) ∧ Below w.heap.size w w' := by
 have HT : Hid (takesB L k = (decide (L.length < 60) && (okK k && bearsB L k))) := by show _ = _; rw [takes_can L k hL]; rfl
 have P0 : Hid (Below w.heap.size w (w.alloc (.cells #[.int .i64 k.hand, .int .i64 k.round, .int .i64 k.frm, .string k.word] 92)) ∧ CellsK (w.alloc (.cells #[.int .i64 k.hand, .int .i64 k.round, .int .i64 k.frm, .string k.word] 92)) w.heap.size 0 k ∧ w.heap.size < (w.alloc (.cells #[.int .i64 k.hand, .int .i64 k.round, .int .i64 k.frm, .string k.word] 92)).heap.size) :=
   ⟨(Below.refl _ _).alloc (Nat.le_refl _) _, ⟨by simp, by simp, by simp, by simp⟩, by simp⟩
 by_cases h60 : L.length < 60
 · have h60' : (L.length : Int) < 60 := by omega
   go_enter Tryz.func96, Tryz.ntmps96
   go_wp2_with fail
   generalize w.alloc (.cells #[.int .i64 k.hand, .int .i64 k.round, .int .i64 k.frm, .string k.word] 92) = w0 at P0 ⊢
   obtain ⟨B0, C0, S0⟩ := P0
   generalize hb : w.heap.size = b at *
   have hr0 : RdK w0 (some ⟨g, off, none⟩) L := hr.below (by rw [hb]; exact B0)
   refine (Kn.knotRight k.hand k.round k.frm k.word _ hw).mono ?_
   rintro e w1 ⟨rfl, hb1⟩
   have C1 := C0.below hb1 S0
   have S1 : b < w1.heap.size := Nat.lt_of_lt_of_le S0 hb1.size
   have B1 := B0.trans (hb1.mono (Nat.le_of_lt S0))
   have hr1 := hr0.below hb1
   clear hb1 B0 S0 C0 hr0
   obtain ⟨c0, c1, c2, c3⟩ := C1
   rw [Nat.zero_add] at c1 c2 c3
   cases hok : okK k
   · have HT2 : Hid (takesB L k = false) := by show _ = _; rw [HT.out, hok]; simp
     clear hok HT
     go_wp2
     go_ret
     exact ⟨by rw [HT2.out]; rfl, by first | exact B1 | (rw [hb]; exact B1)⟩
   · have HT2 : Hid (takesB L k = bearsB L k) := by show _ = _; rw [HT.out, hok]; simp [h60]
     have HOK : Hid (okK k = true) := hok
     clear hok HT
     go_wp2_with fail
     refine (bears g off cap L k _ hL HOK.out hh hr1).mono ?_
     rintro e w2 ⟨rfl, hb2⟩
     have B2 := B1.trans (hb2.mono (Nat.le_of_lt S1))
     clear hb2 B1 S1
     go_wp2
     go_ret
     exact ⟨by rw [HT2.out]; rfl, by first | exact B2 | (rw [hb]; exact B2)⟩
 · have HT2 : Hid (takesB L k = false) := by show _ = _; rw [HT.out]; simp [h60]
   have h60' : ¬ (L.length : Int) < 60 := by omega
   go_enter Tryz.func96, Tryz.ntmps96
   go_wp2
   go_ret
   exact ⟨by rw [HT2.out]; rfl, P0.out.1⟩
end Lc
namespace Sg
open Kn (K okK)
open Bit (bit)
open Lc (at')
def orB (a b : Int) : Int := ((a.toNat ||| b.toNat : Nat) : Int)
theorem orB_bd (a b : Int) (h0 : 0 ≤ a) (h1 : a < 1152921504606846976) (h2 : 0 ≤ b) (h3 : b < 1152921504606846976) : 0 ≤ orB a b ∧ orB a b < 1152921504606846976 := by
 have hx : a.toNat ||| b.toNat < 2 ^ 60 := Nat.or_lt_two_pow (by omega) (by omega)
 unfold orB; omega
theorem or_eq (a b : Int) (h0 : 0 ≤ a) (h1 : a < 1152921504606846976) (h2 : 0 ≤ b) (h3 : b < 1152921504606846976) : bits .or .i64 a b = orB a b := Bit.i64_or a b h0 (by omega) h2 (by omega)
theorem bit_orB (a b : Int) (h0 : 0 ≤ a) (h2 : 0 ≤ b) (i : Nat) : bit (orB a b) i = (bit a i || bit b i) := by
 rw [Bit.bit_testBit _ (by unfold orB; omega), Bit.bit_testBit a h0, Bit.bit_testBit b h2]
 unfold orB
 rw [Int.toNat_natCast, Nat.testBit_or]
def accB (f : Int) (l : List Int) (i : Nat) : Nat → Int
 | 0 => 2 ^ i
 | k + 1 => if bit f k then orB (accB f l i k) (l.getD k 0) else accB f l i k
def Within (l : List Int) : Prop := ∀ x ∈ l, 0 ≤ x ∧ x < 1152921504606846976
theorem within_get {l : List Int} (h : Within l) (k : Nat) : 0 ≤ l.getD k 0 ∧ l.getD k 0 < 1152921504606846976 := by
 by_cases hk : k < l.length
 · exact h _ (by simp [List.getD, List.getElem?_eq_getElem hk])
 · simp [List.getD, List.getElem?_eq_none (Nat.le_of_not_lt hk)]
theorem accB_bd (f : Int) (l : List Int) (i k : Nat) (hi : i < 60) (hl : Within l) : 0 ≤ accB f l i k ∧ accB f l i k < 1152921504606846976 := by
 induction k with
 | zero => have := Base.pow_bd i hi; exact ⟨by unfold accB; omega, this.2⟩
 | succ k ih =>
   unfold accB
   split
   · have := within_get hl k
     exact orB_bd _ _ ih.1 ih.2 this.1 this.2
   · exact ih
def belows (L : List K) : Nat → List Int
 | 0 => []
 | n + 1 => belows L n ++ [accB (at' L n).frm (belows L n) n n]
theorem belows_len (L : List K) (n : Nat) : (belows L n).length = n := by
 induction n with
 | zero => rfl
 | succ n ih => unfold belows; simp [ih]
theorem belows_in (L : List K) (n : Nat) (hn : n ≤ 60) : Within (belows L n) := by
 induction n with
 | zero => intro x hx; simp [belows] at hx
 | succ n ih =>
   have ih := ih (by omega)
   intro x hx
   unfold belows at hx
   rw [List.mem_append] at hx
   rcases hx with hx | hx
   · exact ih x hx
   · simp at hx; rw [hx]; exact accB_bd _ _ _ _ (by omega) ih
def closedTo (l : List Int) (s : Int) (n : Nat) : Bool := (List.range n).all fun i => !bit s i || (bits .andNot .i64 (l.getD i 0) s == 0)
theorem closed_step (l : List Int) (s : Int) (n : Nat) : closedTo l s (n + 1) = (closedTo l s n && (!bit s n || (bits .andNot .i64 (l.getD n 0) s == 0))) := by
 unfold closedTo; rw [List.range_succ]; simp
theorem closed_no (l : List Int) (s : Int) (n m : Nat) (h : n < m) (hb : bit s n = true) (hq : (bits .andNot .i64 (l.getD n 0) s == 0) = false) : closedTo l s m = false := by
 unfold closedTo
 rw [List.all_eq_false]
 exact ⟨n, by simpa using h, by rw [hb, hq]; decide⟩
def tipsTo (l : List Int) (s : Int) : Nat → Int
 | 0 => s
 | n + 1 => if bit s n then bits .andNot .i64 (tipsTo l s n) (bits .andNot .i64 (l.getD n 0) (2 ^ n)) else tipsTo l s n
def FrmOk (L : List K) : Prop := ∀ k ∈ L, 0 ≤ k.frm ∧ k.frm < 1152921504606846976
theorem frm_lace {L : List K} (h : Lc.laceB L = true) : FrmOk L := by
 intro k hk
 obtain ⟨i, hi, rfl⟩ := List.getElem_of_mem hk
 have := Lc.ok_frm (Lc.can_ok (Lc.lace_upTo h i hi))
 rwa [Lc.at_get L i hi] at this
end Sg
namespace Sg
open Kn (K okK)
open Bit (bit)
open Lc (at' RdK)
open Memb (Own)
def NumsPost (l : List Int) (w : World) (e : Ending) (w' : World) : Prop := ∃ ao cap, e = .returned (.slice ao l.length cap) ∧ Own w.heap.size w' ao cap l ∧ Below w.heap.size w w'
theorem one_new (W : World) (x : Int) (t : TypeId) : ∀ (j : Nat) u, ([Value.int .i64 x])[j]? = some u → (W.alloc (.cells #[.int .i64 x] t)).cell? ((⟨W.heap.size, 0, none⟩ : Addr).add j) = some u := by
 intro q u hq
 match q, hq with
 | 0, hq => simp at hq; subst hq; simp [Addr.add]
theorem one_one (x : Int) : ∀ u ∈ [Value.int .i64 x], u.oneCell' = true := by
 intro u hu; simp at hu; subst hu; rfl
set_option maxHeartbeats 3200000 in
theorem l4All (ao : Option Addr) (cap : Nat) (L : List K) (w : World) (hL : L.length ≤ 60) (hf : FrmOk L) (hr : RdK w ao L) :
   Calls Tryz.prog 43 #[.slice ao L.length cap] w (NumsPost (belows L L.length) w) := by
 obtain ⟨i0, hi, hz0, hz1, hz2⟩ := info_parts Memb.info2
 go_enter Tryz.func43, Tryz.ntmps43
 go_wp2
 go_loopw [3, 4] (fun v i wr => ∃ j : Nat, j ≤ L.length ∧ i = .int .i64 j ∧ Hid (wr.ownsRow w.heap.size 2 1 v (belows L j).length ((belows L j).map (Value.int .i64))) ∧ Hid (Below w.heap.size w wr)) (fun _ i _ => L.length - (intOf i).toNat)
 case atStart => exact ⟨0, by omega, rfl, Memb.own_empty w, (Below.refl _ _).alloc (Nat.le_refl _) _⟩
 case round =>
   obtain ⟨j, hj, rfl, HO, HB⟩ := hrel
   by_cases hlt : j < L.length
   · obtain ⟨g, off, rfl, hg, hc⟩ := hr.at j hlt
     obtain ⟨_, _, c2, _⟩ := hc.below HB.out hg
     have hfj := hf _ (Lc.at_mem L j hlt)
     have hbl := belows_len L j
     have hbi := belows_in L j (by omega)
     obtain ⟨bo, bc, hv, hown⟩ := Memb.own_shape HO.out
     subst hv
     have hrd := Lst.own_rd hown
     have HS : Hid (belows L (j + 1) = belows L j ++ [accB (at' L j).frm (belows L j) j j]) := rfl
     have HOA : Hid (∀ o : Obj, (wr.alloc o).ownsRow w.heap.size 2 1 (.slice bo (belows L j).length bc) (belows L j).length ((belows L j).map (Value.int .i64))) := fun o => hown.alloc o
     clear hc
     have HBL : Hid ((belows L j).length = j) := hbl
     have hl60 : (belows L j).length ≤ 60 := by omega
     clear hbl
     generalize belows L j = l at HS HO hown hrd HBL hl60 hbi HOA ⊢
     go_wp2_with (go_at_call 50; refine (Base.l1Bit _ _ (by omega) (by omega)).mono ?_; rintro e w' ⟨rfl, rfl⟩; rw [Int.toNat_natCast])
     go_loop [5, 6] (fun s k => ∃ m : Nat, m ≤ j ∧ k = .int .i64 m ∧ s = .int .i64 (accB (at' L j).frm l j m)) (fun _ k => j - (intOf k).toNat)
     case atStart => exact ⟨0, by omega, rfl, rfl⟩
     case round =>
       obtain ⟨m, hm, rfl, rfl⟩ := hrel
       by_cases hml : m < j
       · have hab := accB_bd (at' L j).frm l j m (by omega) hbi
         have hgb := within_get hbi m
         have HA : Hid (accB (at' L j).frm l j (m + 1) = if bit (at' L j).frm m then orB (accB (at' L j).frm l j m) (l.getD m 0) else accB (at' L j).frm l j m) := rfl
         rcases hrd with hrd | ⟨b, rfl, hcell⟩
         · have := HBL.out; rw [hrd] at this; simp at this; omega
         have cm := hcell m (by have := HBL.out; omega)
         have hml2 : (m : Int) < (l.length : Int) := by have := HBL.out; omega
         have hor := or_eq _ _ hab.1 hab.2 hgb.1 hgb.2
         clear hcell hgb hab
         generalize accB (at' L j).frm l j m = x at HA hor ⊢
         generalize l.getD m 0 = y at HA hor cm
         cases hb : bit (at' L j).frm m
         · have HD : Hid (accB (at' L j).frm l j (m + 1) = x) := by show _ = _; rw [HA.out, hb]; rfl
           have HBb : Hid (bit (at' L j).frm m = false) := hb
           clear hb HA hor
           go_wp2_with (go_at_call 48; refine (Base.l1Has _ _ _ hfj.1 hfj.2 (by omega) (by omega)).mono ?_; rintro e w' ⟨rfl, rfl⟩; rw [Int.toNat_natCast, HBb.out])
           go_round
           case rel => exact ⟨m + 1, by omega, by go_num, by rw [HD.out]⟩
           case measure => simp [intOf]; omega
         · have HD : Hid (accB (at' L j).frm l j (m + 1) = orB x y) := by show _ = _; rw [HA.out, hb]; rfl
           have HBb : Hid (bit (at' L j).frm m = true) := hb
           have HOr : Hid (bits .or .i64 x y = orB x y) := hor
           clear hb HA hor
           go_wp2_with (go_at_call 48; refine (Base.l1Has _ _ _ hfj.1 hfj.2 (by omega) (by omega)).mono ?_; rintro e w' ⟨rfl, rfl⟩; rw [Int.toNat_natCast, HBb.out])
           go_round
           case rel => exact ⟨m + 1, by omega, by go_num, by rw [HD.out, HOr.out]⟩
           case measure => simp [intOf]; omega
       · obtain rfl : m = j := by omega
         generalize accB (at' L m).frm l m m = x at HS ⊢
         clear hrd c2
         go_wp2_with (at_builtin; refine wpList_append_own _ rfl _ _ 51 rfl w.heap.size 2 i0 (.int .i64 0) 1 8 Tryz.underlying51 hi hz0 hz1 hz2 rfl (by decide) _ _ _ rfl (HOA.out _) ⟨wr.heap.size, 0, none⟩ 1 1 [.int .i64 x] rfl rfl (one_new wr x _) (one_one x) ?c3 ?c4 ?c5 ?_)
         case c3 => unfold maxLen; omega
         case c4 => omega
         case c5 => have := HB.out.size; simp; omega
         intro v' w1 hown' hgrow _
         have R := Memb.rel_put HS.out HB.out.size HO.out HB.out hown' hgrow
         have HO1 : Hid _ := R.1
         have HB1 : Hid _ := R.2.1
         clear hown' hgrow R hown HO HB HOA
         go_wp2
         go_roundw
         case rel => exact ⟨m + 1, by omega, by go_num, HO1, HB1⟩
         case measure => simp [intOf]; omega
   · obtain rfl : j = L.length := by omega
     obtain ⟨bo, bc, hv, hown⟩ := Memb.own_shape HO.out
     have HV : Hid (u3 = .slice bo (belows L L.length).length bc) := hv
     clear hv
     go_wp2
     go_ret
     exact ⟨bo, bc, by rw [← HV.out]; rfl, hown, HB.out⟩
set_option maxHeartbeats 1600000 in
theorem l4Closed (bo : Option Addr) (cap : Nat) (l : List Int) (s : Int) (w : World) (hl : l.length ≤ 60) (h0 : 0 ≤ s) (h1 : s < 1152921504606846976) (hrd : Lst.Rd w bo l) :
   Calls Tryz.prog 94 #[.slice bo l.length cap, .int .i64 s] w fun e w' => e = .returned (.bool (closedTo l s l.length)) ∧ w = w' := by
 go_enter Tryz.func94, Tryz.ntmps94
 go_wp2
 go_loop [5] (fun i => ∃ j : Nat, j ≤ l.length ∧ i = .int .i64 j ∧ Hid (closedTo l s j = true)) (fun i => l.length - (intOf i).toNat)
 case atStart => exact ⟨0, by omega, rfl, rfl⟩
 case round =>
   obtain ⟨j, hj, rfl, HC⟩ := hrel
   by_cases hlt : j < l.length
   · rcases hrd with hrd | ⟨b, rfl, hcell⟩
     · rw [hrd] at hlt; simp at hlt
     have cj := hcell j hlt
     have HST : Hid (closedTo l s (j + 1) = (closedTo l s j && (!bit s j || (bits .andNot .i64 (l.getD j 0) s == 0)))) := closed_step l s j
     have HNO : Hid (bit s j = true → (bits .andNot .i64 (l.getD j 0) s == 0) = false → closedTo l s l.length = false) := closed_no l s j l.length hlt
     clear hcell
     generalize l.getD j 0 = y at HST HNO cj
     cases hb : bit s j
     · have HS : Hid (closedTo l s (j + 1) = true) := by show _ = _; rw [HST.out, HC.out, hb]; rfl
       have HBb : Hid (bit s j = false) := hb
       clear hb HST HNO HC
       go_wp2_with (go_at_call 48; refine (Base.l1Has _ _ _ h0 h1 (by omega) (by omega)).mono ?_; rintro e w' ⟨rfl, rfl⟩; rw [Int.toNat_natCast, HBb.out])
       go_round
       case rel => exact ⟨j + 1, by omega, by go_num, HS⟩
       case measure => simp [intOf]; omega
     · have HBb : Hid (bit s j = true) := hb
       cases hq : (bits .andNot .i64 y s == 0)
       · have HS : Hid (closedTo l s l.length = false) := HNO.out hb hq
         have hq' : (bits .andNot .i64 y s != 0) = true := by rw [bne, hq]; rfl
         clear hb hq HST HNO HC
         go_wp2_with (go_at_call 48; refine (Base.l1Has _ _ _ h0 h1 (by omega) (by omega)).mono ?_; rintro e w' ⟨rfl, rfl⟩; rw [Int.toNat_natCast, HBb.out])
         go_ret
         exact ⟨by rw [HS.out]; rfl, rfl⟩
       · have HS : Hid (closedTo l s (j + 1) = true) := by show _ = _; rw [HST.out, HC.out, hb, hq]; rfl
         have hq' : (bits .andNot .i64 y s != 0) = false := by rw [bne, hq]; rfl
         clear hb hq HST HNO HC
         go_wp2_with (go_at_call 48; refine (Base.l1Has _ _ _ h0 h1 (by omega) (by omega)).mono ?_; rintro e w' ⟨rfl, rfl⟩; rw [Int.toNat_natCast, HBb.out])
         go_round
         case rel => exact ⟨j + 1, by omega, by go_num, HS⟩
         case measure => simp [intOf]; omega
   · obtain rfl : j = l.length := by omega
     go_wp2
     go_ret
     exact ⟨by rw [HC.out]; rfl, rfl⟩
set_option maxHeartbeats 1600000 in
theorem l4Tips (bo : Option Addr) (cap : Nat) (l : List Int) (s : Int) (w : World) (hl : l.length ≤ 60) (h0 : 0 ≤ s) (h1 : s < 1152921504606846976) (hrd : Lst.Rd w bo l) :
   Calls Tryz.prog 109 #[.slice bo l.length cap, .int .i64 s] w fun e w' => e = .returned (.int .i64 (tipsTo l s l.length)) ∧ ∃ n, w' = w.drewN n := by
 go_enter Tryz.func109, Tryz.ntmps109
 go_wp2
 go_loopw [5, 6] (fun o i wr => ∃ j n : Nat, j ≤ l.length ∧ i = .int .i64 j ∧ o = .int .i64 (tipsTo l s j) ∧ wr = w.drewN n) (fun _ i _ => l.length - (intOf i).toNat)
 case atStart => exact ⟨0, 0, by omega, rfl, rfl, rfl⟩
 case round =>
   obtain ⟨j, n, hj, rfl, rfl, rfl⟩ := hrel
   by_cases hlt : j < l.length
   · rcases hrd with hrd | ⟨b, rfl, hcell⟩
     · rw [hrd] at hlt; simp at hlt
     have cj := hcell j hlt
     have HST : Hid (tipsTo l s (j + 1) = if bit s j then bits .andNot .i64 (tipsTo l s j) (bits .andNot .i64 (l.getD j 0) (2 ^ j)) else tipsTo l s j) := rfl
     clear hcell
     generalize l.getD j 0 = y at HST cj
     generalize tipsTo l s j = x at HST ⊢
     cases hb : bit s j
     · have HS : Hid (tipsTo l s (j + 1) = x) := by show _ = _; rw [HST.out, hb]; rfl
       have HBb : Hid (bit s j = false) := hb
       clear hb HST
       go_wp2_with (go_at_call 48; refine (Base.l1Has _ _ _ h0 h1 (by omega) (by omega)).mono ?_; rintro e w' ⟨rfl, rfl⟩; rw [Int.toNat_natCast, HBb.out])
       go_roundw
       case rel => exact ⟨j + 1, n, by omega, by go_num, by rw [HS.out], rfl⟩
       case measure => simp [intOf]; omega
     · have HS : Hid (tipsTo l s (j + 1) = bits .andNot .i64 x (bits .andNot .i64 y (2 ^ j))) := by show _ = _; rw [HST.out, hb]; rfl
       have HBb : Hid (bit s j = true) := hb
       have hcall : ∀ V : World, Calls Tryz.prog 50 #[.int .i64 (j : Int)] V fun e w' => e = .returned (.int .i64 (2 ^ j)) ∧ w' = V := by
         intro V
         refine (Base.l1Bit (j : Int) V (by omega) (by omega)).mono ?_
         rintro e w' ⟨rfl, rfl⟩
         exact ⟨by rw [Int.toNat_natCast], rfl⟩
       clear hb HST
       go_wp2_with (first | (go_at_call 48; refine (Base.l1Has _ _ _ h0 h1 (by omega) (by omega)).mono ?_; rintro e w' ⟨rfl, rfl⟩; rw [Int.toNat_natCast, HBb.out]) | fail)
       go_quiet (first | (go_at_call 50; exact (hcall _).mono fun _ _ h => ⟨h.1, _, h.2⟩))
       go_wp2
       go_roundw
       case rel => exact ⟨j + 1, n + nq, by omega, by go_num, by rw [HS.out], by simp⟩
       case measure => simp [intOf]; omega
   · obtain rfl : j = l.length := by omega
     go_wp2
     go_ret
     exact ⟨rfl, n, rfl⟩
end Sg
namespace Rm
open Kn (K okK)
open Bit (bit)
open Lc (at' RdK roundS handsN HandsOk amongI)
set_option maxHeartbeats 800000 in
theorem l3RoundO (ao : Option Addr) (cap : Nat) (L : List K) (s r : Int) (w : World) (hL : L.length ≤ 60) (hr : RdK w ao L) (h0 : 0 ≤ s) (h1 : s < 1152921504606846976) : Calls Tryz.prog 76 #[.slice ao L.length cap, .int .i64 s, .int .i64 r] w fun e w' =>
   e = .returned (.int .i64 (roundS L s r)) ∧ w = w' := by
 rcases hr with h | ⟨g, off, rfl, hg, hc⟩
 · subst h
   have HT : Hid (roundS [] s r = 0) := rfl
   go_enter Tryz.func76, Tryz.ntmps76
   go_wp2
   go_loop [7, 8] (fun o i => o = .int .i64 0 ∧ i = .int .i64 0) (fun _ _ => 0)
   case atStart => exact ⟨rfl, rfl⟩
   case round =>
     obtain ⟨rfl, rfl⟩ := hrel
     go_wp2
     go_ret
     exact ⟨by rw [HT.out]; rfl, rfl⟩
 · exact Lc.l3Round g off cap L s r w hL (.inr ⟨g, off, rfl, hg, hc⟩) h0 h1
def lastTo (L : List K) (who s : Int) : Nat → Int
 | 0 => -1
 | n + 1 => if bit s n && (decide ((at' L n).hand = who) && (decide (lastTo L who s n < 0) || decide ((at' L (lastTo L who s n).toNat).round < (at' L n).round))) then (n : Int) else lastTo L who s n
theorem lastTo_bd (L : List K) (who s : Int) (n : Nat) : -1 ≤ lastTo L who s n ∧ lastTo L who s n < (n : Int) := by
 induction n with
 | zero => simp [lastTo]
 | succ n ih => unfold lastTo; split <;> omega
theorem has_call (f : Int) (i : Nat) (b : Bool) (h0 : 0 ≤ f) (h1 : f < 1152921504606846976) (hi : i ≤ 60) (hb : bit f i = b) (W : World) : Calls Tryz.prog 48 #[.int .i64 f, .int .i64 (i : Int)] W fun e w' => e = .returned (.bool b) ∧ w' = W := by
 refine (Base.l1Has f (i : Int) W h0 h1 (by omega) (by omega)).mono ?_
 rintro e w' ⟨rfl, rfl⟩
 exact ⟨by rw [Int.toNat_natCast, hb], rfl⟩
set_option maxHeartbeats 3200000 in
theorem l13Last (ao : Option Addr) (cap : Nat) (L : List K) (who s : Int) (w : World) (hL : L.length ≤ 60) (hr : RdK w ao L) (h0 : 0 ≤ s) (h1 : s < 1152921504606846976) : Calls Tryz.prog 91 #[.slice ao L.length cap, .int .i64 who, .int .i64 s] w fun e w' =>
   e = .returned (.int .i64 (lastTo L who s L.length)) ∧ ∃ n, w' = w.drewN n := by
 go_enter Tryz.func91, Tryz.ntmps91
 go_wp2
 go_loopw [7, 8] (fun o i wr => ∃ j n : Nat, j ≤ L.length ∧ i = .int .i64 j ∧ o = .int .i64 (lastTo L who s j) ∧ wr = w.drewN n) (fun _ i _ => L.length - (intOf i).toNat)
 case atStart => exact ⟨0, 0, by omega, rfl, rfl, rfl⟩
 case round =>
   obtain ⟨j, n, hj, rfl, rfl, rfl⟩ := hrel
   by_cases hlt : j < L.length
   · have hrl := hr
     obtain ⟨g, off, rfl, hg, hc⟩ := hr.at j hlt
     have hbd := lastTo_bd L who s j
     have HST : Hid (lastTo L who s (j + 1) = if bit s j && (decide ((at' L j).hand = who) && (decide (lastTo L who s j < 0) || decide ((at' L (lastTo L who s j).toNat).round < (at' L j).round))) then (j : Int) else lastTo L who s j) := rfl
     obtain ⟨c0, c1, _, _⟩ := hc
     clear hr
     generalize lastTo L who s j = x at hbd HST ⊢
     cases hb : bit s j
     · have HS : Hid (lastTo L who s (j + 1) = x) := by show _ = _; rw [HST.out, hb]; rfl
       have hcall := has_call s j false h0 h1 (by omega) hb
       clear hb HST
       go_wp2_with fail
       go_quiet (first | (go_at_call 48; exact (hcall _).mono fun _ _ h => ⟨h.1, _, h.2⟩))
       go_wp2
       go_roundw
       case rel => exact ⟨j + 1, n + nq, by omega, by go_num, by rw [HS.out], by simp⟩
       case measure => simp [intOf]; omega
     · have hcall := has_call s j true h0 h1 (by omega) hb
       by_cases hq : (at' L j).hand = who
       · have hq1 : ((at' L j).hand == who) = true := by simpa using hq
         by_cases hx : x < 0
         · have HS : Hid (lastTo L who s (j + 1) = (j : Int)) := by show _ = _; rw [HST.out, hb]; simp [hq, hx]
           clear hb HST hq
           go_wp2_with fail
           go_quiet (first | (go_at_call 48; exact (hcall _).mono fun _ _ h => ⟨h.1, _, h.2⟩))
           go_wp2
           go_roundw
           case rel => exact ⟨j + 1, n + nq, by omega, by go_num, by rw [HS.out], by simp⟩
           case measure => simp [intOf]; omega
         · obtain ⟨p, rfl⟩ := Int.eq_ofNat_of_zero_le (show 0 ≤ x by omega)
           have hpl : p < L.length := by omega
           obtain ⟨_, _, e1, _, _⟩ := hrl.on p hpl
           have hx1 : decide ((p : Int) < 0) = false := decide_eq_false hx
           have hpi : (p : Int) < (L.length : Int) := by omega
           by_cases hy : (at' L p).round < (at' L j).round
           · have HS : Hid (lastTo L who s (j + 1) = (j : Int)) := by show _ = _; rw [HST.out, hb]; simp [hq, hy]
             clear hb HST hq hx
             go_wp2_with fail
             go_quiet (first | (go_at_call 48; exact (hcall _).mono fun _ _ h => ⟨h.1, _, h.2⟩))
             go_wp2
             go_roundw
             case rel => exact ⟨j + 1, n + nq, by omega, by go_num, by rw [HS.out], by simp⟩
             case measure => simp [intOf]; omega
           · have HS : Hid (lastTo L who s (j + 1) = (p : Int)) := by show _ = _; rw [HST.out, hb]; simp [hy]; omega
             have hy1 : decide ((at' L p).round < (at' L j).round) = false := decide_eq_false hy
             clear hb HST hq hx
             go_wp2_with fail
             go_quiet (first | (go_at_call 48; exact (hcall _).mono fun _ _ h => ⟨h.1, _, h.2⟩))
             go_wp2
             go_roundw
             case rel => exact ⟨j + 1, n + nq, by omega, by go_num, by rw [HS.out], by simp⟩
             case measure => simp [intOf]; omega
       · have HS : Hid (lastTo L who s (j + 1) = x) := by show _ = _; rw [HST.out, hb]; simp [hq]
         have hq1 : ((at' L j).hand == who) = false := by simpa using hq
         clear hb HST hq
         go_wp2_with fail
         go_quiet (first | (go_at_call 48; exact (hcall _).mono fun _ _ h => ⟨h.1, _, h.2⟩))
         go_wp2
         go_roundw
         case rel => exact ⟨j + 1, n + nq, by omega, by go_num, by rw [HS.out], by simp⟩
         case measure => simp [intOf]; omega
   · obtain rfl : j = L.length := by omega
     go_wp2
     go_ret
     exact ⟨rfl, n, rfl⟩
def nextTo (L : List K) (has : Int) : Nat → Int
 | 0 => 0
 | k + 1 => if 3 ≤ handsN L (roundS L has (k : Int)) then ((k + 1 : Nat) : Int) else nextTo L has k
theorem nextTo_bd (L : List K) (has : Int) (k : Nat) : 0 ≤ nextTo L has k ∧ nextTo L has k ≤ (k : Int) := by
 induction k with
 | zero => simp [nextTo]
 | succ k ih => unfold nextTo; split <;> omega
def nextI (L : List K) (has last : Int) : Int := if 0 ≤ last ∧ nextTo L has 19 ≤ (at' L last.toNat).round then -1 else nextTo L has 19
set_option maxHeartbeats 1600000 in
theorem l14Next (ao : Option Addr) (cap : Nat) (L : List K) (who has kept last : Int) (w : World) (hL : L.length ≤ 60) (hh : HandsOk L) (hr : RdK w ao L) (h0 : 0 ≤ has) (h1 : has < 1152921504606846976) (hl : last < (L.length : Int)) :
   Calls Tryz.prog 70 #[.slice ao L.length cap, .agg #[.int .i64 who, .int .i64 has, .int .i64 kept, .int .i64 last]] w fun e w' => e = .returned (.int .i64 (nextI L has last)) ∧ Below w.heap.size w w' := by
 have P0 : Hid (Below w.heap.size w (w.alloc (.cells #[.int .i64 who, .int .i64 has, .int .i64 kept, .int .i64 last] 26)) ∧ (w.alloc (.cells #[.int .i64 who, .int .i64 has, .int .i64 kept, .int .i64 last] 26)).cell? ⟨w.heap.size, 1, none⟩ = some (.int .i64 has) ∧ (w.alloc (.cells #[.int .i64 who, .int .i64 has, .int .i64 kept, .int .i64 last] 26)).cell? ⟨w.heap.size, 3, none⟩ = some (.int .i64 last) ∧ w.heap.size < (w.alloc (.cells #[.int .i64 who, .int .i64 has, .int .i64 kept, .int .i64 last] 26)).heap.size) :=
   ⟨(Below.refl _ _).alloc (Nat.le_refl _) _, by simp, by simp, by simp⟩
 go_enter Tryz.func70, Tryz.ntmps70
 go_wp2
 generalize w.alloc (.cells #[.int .i64 who, .int .i64 has, .int .i64 kept, .int .i64 last] 26) = w0 at P0 ⊢
 obtain ⟨B0, C1, C3, S0⟩ := P0
 have hr0 := hr.below B0
 generalize hbe : w.heap.size = b at *
 go_loopw [5, 6] (fun o i wr => ∃ j : Nat, j ≤ 19 ∧ i = .int .i64 ((j : Int) + 1) ∧ o = .int .i64 (nextTo L has j) ∧ Hid (Below w0.heap.size w0 wr)) (fun _ i _ => 20 - (intOf i).toNat)
 case atStart => exact ⟨0, by omega, rfl, rfl, Below.refl _ _⟩
 case round =>
   obtain ⟨j, hj, rfl, rfl, HB⟩ := hrel
   have c1 := (HB.out.cell (p := ⟨b, 1, none⟩) S0).trans C1
   have c3 := (HB.out.cell (p := ⟨b, 3, none⟩) S0).trans C3
   have HR : Hid (RdK wr ao L) := hr0.below HB.out
   by_cases hlt : j < 19
   · have hrb := Lc.round_bd L has (j : Int) hL
     have HST : Hid (nextTo L has (j + 1) = if 3 ≤ handsN L (roundS L has (j : Int)) then ((j + 1 : Nat) : Int) else nextTo L has j) := rfl
     have hle : (j : Int) + 1 ≤ 19 := by omega
     clear c3
     go_wp2_with fail
     refine (l3RoundO ao cap L has (j : Int) _ hL HR.out h0 h1).mono ?_
     rintro e w1 ⟨rfl, rfl⟩
     go_wp2_with fail
     refine (Lc.l3Hands ao cap L _ _ hL HR.out hh hrb.1 (by omega)).mono ?_
     rintro e w2 ⟨rfl, hb2⟩
     have HB2 : Hid (Below w0.heap.size w0 w2) := HB.out.trans (hb2.mono HB.out.size)
     clear hb2 HB HR c1 hrb
     by_cases hq : 3 ≤ handsN L (roundS L has (j : Int))
     · have HS : Hid (nextTo L has (j + 1) = ((j + 1 : Nat) : Int)) := by show _ = _; rw [HST.out, if_pos hq]
       clear HST
       go_wp2
       go_roundw
       case rel => exact ⟨j + 1, by omega, by go_num, by rw [HS.out]; congr 1, HB2⟩
       case measure => simp [intOf]; omega
     · have HS : Hid (nextTo L has (j + 1) = nextTo L has j) := by show _ = _; rw [HST.out, if_neg hq]
       clear HST
       go_wp2
       go_roundw
       case rel => exact ⟨j + 1, by omega, by go_num, by rw [HS.out], HB2⟩
       case measure => simp [intOf]; omega
   · obtain rfl : j = 19 := by omega
     have hle : ¬ ((19 : Nat) : Int) + 1 ≤ 19 := by omega
     have HT : Hid (nextI L has last = if 0 ≤ last ∧ nextTo L has 19 ≤ (at' L last.toNat).round then -1 else nextTo L has 19) := rfl
     have HBE : Hid (Below b w wr) := B0.trans (HB.out.mono (Nat.le_of_lt S0))
     generalize nextTo L has 19 = x at HT ⊢
     by_cases hl0 : 0 ≤ last
     · obtain ⟨p, rfl⟩ := Int.eq_ofNat_of_zero_le hl0
       obtain ⟨g, off, rfl, hg, hc⟩ := HR.out.at p (by omega)
       obtain ⟨_, e1, _, _⟩ := hc
       rw [Int.toNat_natCast] at HT
       by_cases hy : x ≤ (at' L p).round
       · have HT2 : Hid (nextI L has (p : Int) = -1) := by show _ = _; rw [HT.out, if_pos ⟨hl0, hy⟩]
         clear HT
         go_wp2
         go_ret
         exact ⟨by rw [HT2.out]; rfl, by first | exact HBE.out | (rw [hbe]; exact HBE.out)⟩
       · have HT2 : Hid (nextI L has (p : Int) = x) := by show _ = _; rw [HT.out, if_neg (fun h => hy h.2)]
         clear HT
         go_wp2
         go_ret
         exact ⟨by rw [HT2.out]; rfl, by first | exact HBE.out | (rw [hbe]; exact HBE.out)⟩
     · have HT2 : Hid (nextI L has last = x) := by show _ = _; rw [HT.out, if_neg (fun h => hl0 h.1)]
       clear HT
       go_wp2
       go_ret
       exact ⟨by rw [HT2.out]; rfl, by first | exact HBE.out | (rw [hbe]; exact HBE.out)⟩
end Rm
namespace Rm
open Kn (K okK)
open Bit (bit)
open Sg (orB)
open Lc (at' RdK)
theorem andNot_bd (a s : Int) (h0 : 0 ≤ a) (h1 : a < 1152921504606846976) : 0 ≤ bits .andNot .i64 a s ∧ bits .andNot .i64 a s < 1152921504606846976 := by
 obtain ⟨A, rfl⟩ := Int.eq_ofNat_of_zero_le h0
 have hA : (BitVec.ofInt 64 (A : Int)).toNat = A := ofInt_u64 A (by omega)
 have hx : (BitVec.ofInt 64 (A : Int) &&& ~~~ BitVec.ofInt 64 s).toNat ≤ A := by
   rw [BitVec.toNat_and, hA]; exact Nat.and_le_left
 have e : bits .andNot .i64 (A : Int) s = IntKind.i64.wrap ((BitVec.ofInt 64 (A : Int) &&& ~~~ BitVec.ofInt 64 s).toNat : Int) := rfl
 rw [e]
 generalize (BitVec.ofInt 64 (A : Int) &&& ~~~ BitVec.ofInt 64 s).toNat = x at hx
 simp only [IntKind.wrap, IntKind.bits, IntKind.signed]
 simp
 omega
structure HandAt (w : World) (g o : Nat) (who has kept last : Int) : Prop where
 lt : g < w.heap.size
 c0 : w.cell? ⟨g, o, none⟩ = some (.int .i64 who)
 c1 : w.cell? ⟨g, o + 1, none⟩ = some (.int .i64 has)
 c2 : w.cell? ⟨g, o + 2, none⟩ = some (.int .i64 kept)
 c3 : w.cell? ⟨g, o + 3, none⟩ = some (.int .i64 last)
 f0 : w.frozen? ⟨g, o, none⟩ = false
 f1 : w.frozen? ⟨g, o + 1, none⟩ = false
 f2 : w.frozen? ⟨g, o + 2, none⟩ = false
 f3 : w.frozen? ⟨g, o + 3, none⟩ = false
def lackI (l : List Int) (has : Int) (k : Nat) : Int := bits .andNot .i64 (l.getD k 0) has
def learnB (L : List K) (l : List Int) (who has k : Int) (al : Bool) : Bool :=
 decide (0 ≤ k) && (decide (k < (L.length : Int)) && (!bit has k.toNat && (!(al && (lackI l has k.toNat != 2 ^ k.toNat)) && decide (lastTo L who (lackI l has k.toNat) L.length < 0))))
def LearnPost (L : List K) (l : List Int) (who has k : Int) (al : Bool) (g o : Nat) (w : World) (e : Ending) (w' : World) : Prop :=
 e = .returned (.bool (learnB L l who has k al)) ∧ ∃ d, w' = { (if learnB L l who has k al then w.setCell ⟨g, o + 1, none⟩ (.int .i64 (orB has (l.getD k.toNat 0))) else w) with drawn := d }
theorem learn_no {L : List K} {l : List Int} {who has k : Int} {al : Bool} {g o : Nat} {w w' : World} (h : learnB L l who has k al = false) (d : Nat) (hw : w' = { w with drawn := d }) : LearnPost L l who has k al g o w (.returned (.bool false)) w' :=
 ⟨by rw [h], d, by rw [h]; exact hw⟩
theorem learn_yes {L : List K} {l : List Int} {who has k : Int} {al : Bool} {g o : Nat} {w w' : World} (h : learnB L l who has k al = true) (d : Nat) (hw : w' = { w.setCell ⟨g, o + 1, none⟩ (.int .i64 (orB has (l.getD k.toNat 0))) with drawn := d }) : LearnPost L l who has k al g o w (.returned (.bool true)) w' :=
 ⟨by rw [h], d, by rw [h]; exact hw⟩
set_option maxHeartbeats 3200000 in
theorem l13Learn (ao : Option Addr) (cap : Nat) (L : List K) (bo : Option Addr) (bc : Nat) (l : List Int) (g o : Nat) (who has kept last k : Int) (al : Bool) (w : World) (hL : L.length ≤ 60) (hll : l.length = L.length) (hin : Sg.Within l) (hr : RdK w ao L) (hrd : Lst.Rd w bo l) (hh : HandAt w g o who has kept last) (h0 : 0 ≤ has) (h1 : has < 1152921504606846976) :
   Calls Tryz.prog 42 #[.slice ao L.length cap, .slice bo l.length bc, .pointer (some ⟨g, o, none⟩), .int .i64 k, .bool al] w (LearnPost L l who has k al g o w) := by
 obtain ⟨hlt, c0, c1, c2, c3, f0, f1, f2, f3⟩ := hh
 by_cases hk0 : k < 0
 · have HT : Hid (learnB L l who has k al = false) := by show _ = _; unfold learnB; rw [decide_eq_false (by omega)]; rfl
   go_enter Tryz.func42, Tryz.ntmps42
   go_wp2
   go_ret
   exact learn_no HT.out _ rfl
 · by_cases hk1 : k < (L.length : Int)
   · obtain ⟨p, rfl⟩ := Int.eq_ofNat_of_zero_le (show 0 ≤ k by omega)
     have hpl : p < l.length := by omega
     have hpi : (p : Int) < (l.length : Int) := by omega
     cases hb : bit has p
     · have HL : Hid (learnB L l who has (p : Int) al = (!(al && (lackI l has p != 2 ^ p)) && decide (lastTo L who (lackI l has p) L.length < 0))) := by
         show _ = _
         unfold learnB
         rw [Int.toNat_natCast, hb, decide_eq_true (show (0 : Int) ≤ (p : Int) by omega), decide_eq_true hk1]; rfl
       have HBb : Hid (bit has p = false) := hb
       have hyb := Sg.within_get hin p
       rcases hrd with hrd | ⟨b, rfl, hcell⟩
       · rw [hrd] at hpl; simp at hpl
       have cy := hcell p hpl
       have hlb : 0 ≤ lackI l has p ∧ lackI l has p < 1152921504606846976 := andNot_bd _ _ hyb.1 hyb.2
       have HLK : Hid (bits .andNot .i64 (l.getD p 0) has = lackI l has p) := rfl
       have HOR : Hid (bits .or .i64 has (l.getD p 0) = orB has (l.getD p 0)) := Sg.or_eq _ _ h0 h1 hyb.1 hyb.2
       have HY : Hid (∀ (w' : World) (d : Nat), learnB L l who has (p : Int) al = true → w' = { w.setCell ⟨g, o + 1, none⟩ (.int .i64 (orB has (l.getD p 0))) with drawn := d } → LearnPost L l who has (p : Int) al g o w (.returned (.bool true)) w') := fun w' d h hw => learn_yes h d hw
       have hlast := lastTo_bd L who (lackI l has p) L.length
       clear hb hcell hyb
       generalize l.getD p 0 = y at cy HLK HOR HY
       go_enter Tryz.func42, Tryz.ntmps42
       go_wp2_with (first | (go_at_call 48; refine (Base.l1Has _ _ _ h0 h1 (by omega) (by omega)).mono ?_; rintro e w' ⟨rfl, rfl⟩; rw [Int.toNat_natCast, HBb.out]) | fail)
       go_quiet (fail)
       rw [HLK.out]
       generalize lackI l has p = lk at HL hlb hlast HLK ⊢
       clear HLK
       cases al
       · go_wp2_with fail
         refine (l13Last ao cap L who lk _ hL (hr.drewN _) hlb.1 hlb.2).mono ?_
         rintro e w2 ⟨rfl, n2, rfl⟩
         by_cases hq : lastTo L who lk L.length < 0
         · have HT : Hid (learnB L l who has (p : Int) false = true) := by show _ = _; rw [HL.out]; simp [hq]
           have hq' : ¬ 0 ≤ lastTo L who lk L.length := by omega
           go_wp2_with fail
           go_region
           all_goals
             rw [HOR.out]
             go_wp2
             go_ret
             exact HY.out _ _ HT.out rfl
         · have HT : Hid (learnB L l who has (p : Int) false = false) := by show _ = _; rw [HL.out]; simp [hq]
           have hq' : 0 ≤ lastTo L who lk L.length := by omega
           go_wp2
           go_ret
           exact learn_no HT.out _ rfl
       · by_cases hlk : lk = 2 ^ p
         · have hlk' : (lk != 2 ^ p) = false := by rw [hlk]; simp
           have HLKb : Hid (lk = 2 ^ p) := hlk
           clear hlk
           go_wp2_with (first | (go_at_call 50; refine (Base.l1Bit _ _ (by omega) (by omega)).mono ?_; rintro e w' ⟨rfl, rfl⟩; rw [Int.toNat_natCast]) | fail)
           refine (l13Last ao cap L who lk _ hL (hr.drewN _) hlb.1 hlb.2).mono ?_
           rintro e w2 ⟨rfl, n2, rfl⟩
           by_cases hq : lastTo L who lk L.length < 0
           · have HT : Hid (learnB L l who has (p : Int) true = true) := by show _ = _; rw [HL.out]; rw [hlk']; simp [hq]
             have hq' : ¬ 0 ≤ lastTo L who lk L.length := by omega
             go_wp2_with fail
             go_region
             all_goals
               rw [HOR.out]
               go_wp2
               go_ret
               exact HY.out _ _ HT.out rfl
           · have HT : Hid (learnB L l who has (p : Int) true = false) := by show _ = _; rw [HL.out]; simp [hq]
             have hq' : 0 ≤ lastTo L who lk L.length := by omega
             go_wp2
             go_ret
             exact learn_no HT.out _ rfl
         · have hlk' : (lk != 2 ^ p) = true := by simpa using hlk
           have HT : Hid (learnB L l who has (p : Int) true = false) := by show _ = _; rw [HL.out, hlk']; rfl
           clear hlk
           go_wp2_with (first | (go_at_call 50; refine (Base.l1Bit _ _ (by omega) (by omega)).mono ?_; rintro e w' ⟨rfl, rfl⟩; rw [Int.toNat_natCast]) | fail)
           go_ret
           exact learn_no HT.out _ rfl
     · have HT : Hid (learnB L l who has (p : Int) al = false) := by
         show _ = _
         unfold learnB
         rw [Int.toNat_natCast, hb]; simp
       have HBb : Hid (bit has p = true) := hb
       clear hb
       go_enter Tryz.func42, Tryz.ntmps42
       go_wp2_with (first | (go_at_call 48; refine (Base.l1Has _ _ _ h0 h1 (by omega) (by omega)).mono ?_; rintro e w' ⟨rfl, rfl⟩; rw [Int.toNat_natCast, HBb.out]) | fail)
       go_ret
       exact learn_no HT.out _ rfl
   · have HT : Hid (learnB L l who has k al = false) := by show _ = _; unfold learnB; rw [decide_eq_false hk1]; simp
     go_enter Tryz.func42, Tryz.ntmps42
     go_wp2
     go_ret
     exact learn_no HT.out _ rfl
end Rm
end Go.Proofs.YtfjmenhofllchaaGreatDoor
namespace Go.Proofs.YtfjmenhofllchaaGreatDoor
open Go.RowKit
namespace Fam
theorem region {P : Program} {X : Type} {F : X → World} {id : Nat} {Q : Exit → Act → World → Prop} {a : Act} {w : World} {l : List Oper} (hm : P.follows .mixedOrders = true) (hB : Region.lexB .any l.toArray = true) (hC : ∃ z, w.drew = F z)
   (h : wpQuiet P l.toArray (fun w' => ∃ z, w' = F z) (fun a' => ∀ w', (∃ z, w' = F z) → Q .normal a' w') l a) : (Code.region id l.toArray true).wp P Q a w :=
 wp_region_quiet (C := fun w' => ∃ z, w' = F z) hm hB hC (by simpa using h)
theorem fam (W : World) : ∃ (X : Type) (_ : Inhabited X) (F : X → World), Hid (∀ z, Below W.heap.size W (F z)) ∧ Hid (∀ w', Below W.heap.size W w' → ∃ z, w' = F z) :=
 ⟨{w' // Below W.heap.size W w'}, ⟨⟨W, Below.refl _ _⟩⟩, Subtype.val, fun z => z.2, fun w' h => ⟨⟨w', h⟩, rfl⟩⟩
end Fam
end Go.Proofs.YtfjmenhofllchaaGreatDoor
